/-
  Texts of a proof, joined: functions of the program and of its reference by contract, and what holds of trees, tokens and bytes.
-/
import Derived.Deep.Fields
import Derived.Deep.RegionHeld3
import Derived.Deep.Slices
import Derived.OpenShut
import Derived.ProofKit
import Derived.ShutString
import Derived.SizedLaws
import Derived.Test.YtgeppafcemeidaaGreatDoorJPA1
import Derived.Test.YtgeppafcemeidaaGreatDoorJPN1
import Derived.Test.YtgeppafcemeidaaGreatDoorJPP1
import Derived.Test.YtgeppafcemeidaaGreatDoorJPR1
import Derived.Test.YtgeppafcemeidaaGreatDoorJPT1
import Derived.Test.YtgeppafcemeidaaGreatDoorJPV1
set_option linter.unusedVariables false
set_option linter.unusedSimpArgs false
set_option maxRecDepth 100000
set_option maxHeartbeats 8000000
namespace Go.Proofs.YtgeppafcemeidaaGreatDoor
open Go.ChangeShapes Go.WideShapes Go.ChangeAt Go.RowKit Go.Deep
open Sy (N)
namespace Sy
mutual
def sm:N->Bool
 | .mk _ nm _ t l=>decide (nm.length<=140737488351232)&&decide (t.length<=140737488351232)&&sms l
def sms:List N->Bool
 | []=>true
 | v::l=>sm v&&sms l
end
theorem sms_all:∀ l:List N,sms l=l.all sm
 | []=>by rw [sms];rfl
 | v::l=>by rw [sms,sms_all l];rfl
end Sy
section
variable {H:Type} {enc:TypeId×Value->H} {W:World} {base:Nat} {sp:Nat->Bool} {hd:Bool}
theorem weights_allS {P:Program} {e:TypeId} {d:DataW H}:∀ {l:List (DataW H)},d∈l->∀ n∈d.weights P e,n∈DataW.weightsAll P e l
 | [],h,_,_=>by cases h
 | x::l,h,n,hn=>by
  simp only [DataW.weightsAll,List.mem_append];rcases List.mem_cons.1 h with rfl | h
  ·
   exact .inl hn
  ·
   exact .inr (weights_allS h n hn)
theorem each_nodesS {a:Addr} (n:Nat) (h:∀ i,i < n->∃ cs:List Value,(∀ k,k < 5->W.cell? ((a.add (i * 5)).add k)=cs[k]?)/\∃ v,NC W (fun _=>True) v cs/\Sy.sm v=true) :
  ∃ l ics,l.length=n/\Sy.sms l=true/\NsC W (fun _=>True) l ics/\∀ i,i < n->∀ k,k < 5->W.cell? ((a.add (i * 5)).add k)=ics[i * 5+k]?:=by
 induction n with
 | zero=>exact⟨[],[],rfl,by rw [Sy.sms],NsC.nil_,fun i hi=>absurd hi (by omega)⟩
 | succ n ih =>
  obtain⟨l,ics,h1,hsm,h2,h3⟩:=ih fun i hi=>h i (by omega)
  obtain⟨cs,hc,v,hv,hsv⟩:=h n (by omega)
  have hl:=h2.len;have h5:cs.length=5:=by
   obtain⟨op,nm,n,t,k⟩:=v;rw [NC_mk] at hv;obtain⟨_,_,rfl,_⟩:=hv;rfl
  refine⟨l++[v],ics++cs,by simp [h1],by rw [Sy.sms_all] at hsm |-;simp [hsm,hsv],NsC.app h2 (NsC.one hv),fun i hi k hk=>?_⟩
  by_cases e:i=n
  ·
   subst e;rw [hc k hk,List.getElem?_append_right (by omega)]
   congr 1
   omega
  ·
   rw [h3 i (by omega) k hk,List.getElem?_append_left (by omega)]
theorem spot_noneS {x:Addr} {u:Value} (h:W.cell? x=some u):x.spot=none:=by
 unfold World.cell? at h;split at h
 ·
  split at h
  ·
   cases h
  ·
   rename_i hs;simpa using hs
 ·
  cases h
theorem addr_addS (b o j:Nat):(⟨b,o,none⟩:Addr).add j=⟨b,o+j,none⟩:=by unfold Addr.add;split<;>simp_all
theorem bytesNodeS:Tryz.prog.bytesOf 25=72:=by kernel_rfl
theorem cellsNodeS:Tryz.prog.cellsOf 25=5:=by kernel_rfl
theorem cellsIntS:Tryz.prog.cellsOf 3=1:=by kernel_rfl
theorem cellsStrS:Tryz.prog.cellsOf 9=1:=by kernel_rfl
theorem cellsKidsS:Tryz.prog.cellsOf 23=1:=by kernel_rfl
theorem open_NCS (fuel:Nat):∀ (cs:List Value) (x:DataW H×List MemPlace),DataW.trod enc Tryz.prog W base sp hd fuel 25 cs=some x->(∀ n∈x.1.weights Tryz.prog 25,n<=reachBytes)->∃ v,NC W (fun _=>True) v cs/\Sy.sm v=true:=by
 induction fuel using Nat.strongRecOn with
 | ind fuel ih =>
 intro cs x h hw;obtain⟨ys,n',hfuel,hx,hcl,hyl,hfs⟩:=DataW.trod_struct Tryz.underlying25 h;rw [cellsNodeS] at hcl;have e0:DataW.trod enc Tryz.prog W base sp hd n' 3 ((cs.drop 0).take (Tryz.prog.cellsOf 3))=ys[0]?:=hfs 0 _ rfl;have e1:DataW.trod enc Tryz.prog W base sp hd n' 9 ((cs.drop 1).take (Tryz.prog.cellsOf 9))=ys[1]?:=hfs 1 _ rfl;have e2:DataW.trod enc Tryz.prog W base sp hd n' 3 ((cs.drop 2).take (Tryz.prog.cellsOf 3))=ys[2]?:=hfs 2 _ rfl;have e3:DataW.trod enc Tryz.prog W base sp hd n' 9 ((cs.drop 3).take (Tryz.prog.cellsOf 9))=ys[3]?:=hfs 3 _ rfl;have e4:DataW.trod enc Tryz.prog W base sp hd n' 23 ((cs.drop 4).take (Tryz.prog.cellsOf 23))=ys[4]?:=hfs 4 _ rfl;rw [cellsIntS] at e0 e2;rw [cellsStrS] at e1 e3;rw [cellsKidsS] at e4
 match cs,hcl with
 | [c0,c1,c2,c3,c4],_ =>
  match ys,hyl with
  | [y0,y1,y2,y3,y4],_ =>
   simp at e0 e1 e2 e3 e4;have hwx:∀ n∈DataW.weightsEach Tryz.prog [3,9,3,9,23] [y0.1,y1.1,y2.1,y3.1,y4.1],n<=reachBytes:=fun n hn=>hw n (by rw [hx];simpa [DataW.weights,Tryz.underlying25] using hn)
   obtain⟨k,hk,_,wk⟩:=DataW.trod_int Tryz.underlying3 e0;obtain⟨s,hs,hsw,ws⟩:=DataW.trod_string Tryz.underlying9 e1;obtain⟨n,hn,_,wn⟩:=DataW.trod_int Tryz.underlying3 e2;obtain⟨t,ht,htw,wt⟩:=DataW.trod_string Tryz.underlying9 e3;simp at hk hn hs ht;subst hk hn hs ht;have hw4:∀ n∈y4.1.weights Tryz.prog 23,n<=reachBytes:=fun n hn=>hwx n (by simp only [DataW.weightsEach,List.mem_append];exact .inr (.inr (.inr (.inr (.inl hn)))))
   have hws:s.size<=140737488351232/\t.size<=140737488351232:=by
    have a1:s.size<=reachBytes:=by
     refine hwx _ ?_;simp only [DataW.weightsEach,List.mem_append];exact .inr (.inl (by rw [hsw];simp [DataW.weights]))
    have a2:t.size<=reachBytes:=by
     refine hwx _ ?_;simp only [DataW.weightsEach,List.mem_append];exact .inr (.inr (.inr (.inl (by rw [htw];simp [DataW.weights]))))
    simp only [reachBytes] at a1 a2;omega
   have hsm:∀ l:List N,Sy.sms l=true->Sy.sm (.mk k s.data.toList n t.data.toList l)=true:=fun l hl=>by
    have h1:s.data.toList.length=s.size:=by simp
    have h2:t.data.toList.length=t.size:=by simp
    rw [Sy.sm,hl];simp only [Bool.and_true,Bool.and_eq_true,decide_eq_true_eq];omega
   have hok:∀ j:Nat,j * 72<=140737488351232->Ok k s.data.toList n t.data.toList j:=by
    intro j hj;simp [Lit.wf,IntKind.min,IntKind.max,IntKind.signed,IntKind.bits] at wk wn;unfold maxLen at ws wt;have h1:s.data.toList.length=s.size:=by simp
    have h2:t.data.toList.length=t.size:=by simp
    exact⟨by omega,by omega,by omega,by omega,by omega,by omega,hj⟩
   rcases DataW.trod_slice Tryz.underlying23 e4 with⟨hcs,_⟩ | ⟨a,len,cap,elems,rest,n2,hf2,hcs,hx3,_,hl,hm,hel,hi,_,_⟩
   ·
    simp at hcs;subst hcs;exact⟨.mk k s.data.toList n t.data.toList [],by rw [NC_mk];exact⟨_,[],rfl,hok 0 (by omega),RdN.none_,NsC.nil_⟩,hsm [] (by rw [Sy.sms])⟩
   ·
    simp at hcs;subst hcs;have each:∀ i,i < len->∃ cs:List Value,(∀ k,k < 5->W.cell? ((a.add (i * 5)).add k)=cs[k]?)/\∃ v,NC W (fun _=>True) v cs/\Sy.sm v=true:=fun i hil=>by
     have hb:=hi i hil;rw [cellsNodeS] at hb;have hlt:i < elems.length:=by omega
     rw [List.getElem?_eq_getElem hlt] at hb;obtain⟨cs',hc,ht⟩:=Option.bind_eq_some_iff.1 hb;obtain⟨_,hcl',hat⟩:=World.cells?_some hc;refine⟨cs',fun k hk=>?_,ih n2 (by omega) cs' _ ht fun m hm=>?_⟩
     ·
      exact hat k (by omega)
     ·
      refine hw4 m ?_;rw [hx3];simp only [DataW.weights,Tryz.underlying23,List.mem_cons,List.mem_append];exact .inr (.inl (weights_allS (List.mem_map.2 ⟨_,List.getElem_mem hlt,rfl⟩) m hm))
    obtain⟨l,ics,hll,hsl,hvs,hat⟩:=each_nodesS len each;have hil:=hvs.len;have hlw:l.length * 72<=140737488351232:=by
     have:=hw4 ((elems.length+rest.length) * Tryz.prog.bytesOf 25) (by rw [hx3];simp [DataW.weights,Tryz.underlying23])
     rw [bytesNodeS] at this;simp only [reachBytes] at this;omega
    refine⟨.mk k s.data.toList n t.data.toList l,?_,hsm l hsl⟩;rw [NC_mk];refine⟨_,ics,rfl,hok _ hlw,?_,hvs⟩;refine⟨some a,cap,by rw [hll],by omega,hm,hil,?_⟩
    rcases Nat.eq_zero_or_pos len with h0 | h0
    ·
     exact .inl (by omega)
    ·
     have hsp:a.spot=none:=by
      have:=hat 0 h0 0 (by omega)
      have e:(a.add (0 * 5)).add 0=a:=by simp [Addr.add]
      rw [e,List.getElem?_eq_getElem (by omega)] at this
      exact spot_noneS this
     obtain⟨b,o,sp'⟩:=a;subst hsp;refine .inr ⟨b,o,rfl,trivial,fun j u hj=>?_⟩
     have hjl:j < ics.length:=(List.getElem?_eq_some_iff.1 hj).1;have:=hat (j / 5) (by omega) (j % 5) (by omega)
     rw [addr_addS,addr_addS,show j / 5 * 5+j % 5=j by omega,show o+j / 5 * 5+j % 5=o+j by omega,hj] at this
     exact this
theorem open_nodeS {base':Nat} {r:Reach} {v:Value} {d:DataW H} {ps:List MemPlace} (hval:Value.okWide Tryz.prog W r base' 25 v) (h:DataW.Trod enc Tryz.prog W base sp hd 25 v d ps) (hw:∀ n∈d.weights Tryz.prog 25,n<=reachBytes) :
  ∃ x:N,NA W (fun _=>True) v x/\Sy.sm x=true:=by
 obtain⟨fuel,hf⟩:=h;obtain⟨x,hx,hsx⟩:=open_NCS fuel _ _ hf hw;have:∃ cs,v=.agg cs:=by
  unfold Value.okWide at hval;rw [Tryz.underlying25] at hval;obtain⟨cs,h,_⟩:=hval;exact⟨cs,h⟩
 obtain⟨cs,rfl⟩:=this;exact⟨x,⟨cs.toList,by simp,by simpa [Value.cells] using hx⟩,hsx⟩
end
end Go.Proofs.YtgeppafcemeidaaGreatDoor
namespace Go.Proofs.YtgeppafcemeidaaGreatDoor
open Go.RowKit
theorem cat_by (a b:List UInt8):byS a++byS b=byS (a++b):=by
 apply ByteArray.ext
 simp [byS,ByteArray.data_append]
end Go.Proofs.YtgeppafcemeidaaGreatDoor
namespace Go.Proofs.YtgeppafcemeidaaGreatDoor
open Go.RowKit
theorem digits_any (k:Nat):∀ (u:Nat) (w:World),u < k->u<=9223372036854775808 ->
  Calls Tryz.prog 125 #[.int .i64 (-(u:Int))] w fun e w'=>e=.returned (.string ⟨(Lib.decDigits u).toArray⟩)/\Below w.heap.size w w':=by
 induction k with
 | zero=>intro u w h;omega
 | succ k ih =>
  intro u w hk hu;have e2:=tmod_neg u;obtain⟨dg,hdg⟩:∃ dg,dg=u % 10:=⟨_,rfl⟩;obtain⟨q,hq⟩:∃ q,q=u / 10:=⟨_,rfl⟩;have e1:=tdiv_neg u;rw [<- hdg] at e2;rw [<- hq] at e1;have hd10:dg < 10:=by omega
  have hcv:IntKind.u8.wrap (48+(dg:Int))=((48+dg:Nat):Int):=by
   have:(48+(dg:Int))=((48+dg:Nat):Int):=by omega
   rw [this];rcases (by omega:dg=0\/dg=1\/dg=2\/dg=3\/dg=4\/dg=5\/dg=6\/dg=7\/dg=8\/dg=9) with h | h | h | h | h | h | h | h | h | h<;>subst h<;>decide
  have hstr:∀ W:World,(convert 70 9 (.slice (some ⟨W.heap.size,0,none⟩) 1 1)).run Tryz.prog (W.alloc (.cells #[.int .u8 (48+(dg:Int))] 5))=.ok (.string ⟨#[UInt8.ofNat (48+dg)]⟩) (W.alloc (.cells #[.int .u8 (48+(dg:Int))] 5)):=fun W=>by
   rw [show (48+(dg:Int))=((48+dg:Nat):Int) by omega]
   have h8:=lit8 (m:=48+dg) (by omega)
   rw [h8];have ho:OwnB (W.alloc (.cells #[by8 (UInt8.ofNat (48+dg))] 5)) 0 (.slice (some ⟨W.heap.size,0,none⟩) 1 1) [UInt8.ofNat (48+dg)] :=
    Own.lit (base:=0) (e:=5) W [by8 (UInt8.ofNat (48+dg))] (Nat.zero_le _) (by simp [maxLen])
   exact(OwnB.bs ho).conv
  by_cases h10:u < 10
  ·
   have HD:Hid (Lib.decDigits u=[UInt8.ofNat (48+dg)]):=by show _=_;rw [Nm.dec_small h10,hdg,Nat.mod_eq_of_lt h10]
   rw [HD.out];have hgt:(-10:Int) < -(u:Int):=by omega
   clear ih hk hdg hq HD;generalize UInt8.ofNat (48+dg)=ch at *;go_enter Tryz.func125,Tryz.ntmps125;go_wp2_with fail;go_ret;exact⟨rfl,(Below.refl _ _).alloc (Nat.le_refl _) _⟩
  ·
   have HD:Hid (Lib.decDigits u=Lib.decDigits q++[UInt8.ofNat (48+dg)]):=by show _=_;rw [Nm.dec_big h10,hdg,hq]
   rw [HD.out];have hgt:¬ (-10:Int) < -(u:Int):=by omega
   have hqb:q<=9223372036854775807:=by omega
   have hql:(Lib.decDigits q).length<=19:=Nm.dec_len 18 q (by omega)
   have IH:=hid (fun W=>ih q W (by omega) (by omega))
   clear ih hk hdg hq HD;generalize UInt8.ofNat (48+dg)=ch at *;generalize Lib.decDigits q=ds at *;go_enter Tryz.func125,Tryz.ntmps125;go_wp2_with fail;refine(IH.out _).mono ?_;rintro e w1 ⟨rfl,hb⟩;have HB:=hid (((Below.refl w.heap.size w).alloc (Nat.le_refl _) _).trans (hb.mono (by simp)))
   clear hb;go_wp2_with fail;go_ret;exact⟨congrArg (fun z=>Ending.returned (Value.string z)) (cat_list ds _ [ch] rfl),HB.out⟩
theorem decimal_any (n:Int) (w:World) (h0 : -9223372036854775808<=n) (h1:n<=9223372036854775807) :
  Calls Tryz.prog 77 #[.int .i64 n] w fun e w'=>e=.returned (.string ⟨(Lib.itoa n).toArray⟩)/\Below w.heap.size w w':=by
 have hlen:(Lib.decDigits n.natAbs).length<=19:=Nm.dec_len 18 n.natAbs (by omega)
 obtain⟨u,hu⟩:∃ u,u=n.natAbs:=⟨_,rfl⟩;have hu2:u<=9223372036854775808:=by omega
 have C:=hid (fun W=>digits_any (u+1) u W (by omega) hu2)
 by_cases hn:n < 0
 ·
  have HI:Hid (Lib.itoa n=[45]++Lib.decDigits u):=by show _=_;unfold Lib.itoa;rw [if_pos hn,hu];rfl
  rw [HI.out];rw [<- hu] at hlen;have hnu:n = -(u:Int):=by omega
  clear HI hu h0 h1;subst hnu;generalize Lib.decDigits u=ds at *;go_enter Tryz.func77,Tryz.ntmps77;go_wp2_with fail;refine(C.out _).mono ?_;rintro e w1 ⟨rfl,hb⟩;have HB:=hid hb;clear hb;go_wp2_with fail;go_ret;exact⟨congrArg (fun z=>Ending.returned (Value.string z)) (cat_list [45] _ ds rfl),HB.out⟩
 ·
  have HI:Hid (Lib.itoa n=Lib.decDigits u):=by
   show _=_;unfold Lib.itoa;rw [if_neg hn,hu];rw [show n.toNat=n.natAbs by omega]
  rw [HI.out];rw [<- hu] at hlen;have hnu:n=(u:Int):=by omega
  have hu3:u<=9223372036854775807:=by omega
  clear HI hu h0 h1;subst hnu;generalize Lib.decDigits u=ds at *;go_enter Tryz.func77,Tryz.ntmps77;go_wp2_with fail;refine(C.out _).mono ?_;rintro e w1 ⟨rfl,hb⟩;have HB:=hid hb;clear hb;go_wp2_with fail;go_ret;exact⟨rfl,HB.out⟩
end Go.Proofs.YtgeppafcemeidaaGreatDoor
namespace Go.Proofs.YtgeppafcemeidaaGreatDoor
open Go.RowKit
theorem one_str (s:ByteArray) (i:Nat) (h:i < s.size):s.extract i (i+1)=byS [s[i]]:=by
 rw [extract_mk,show i+1 - i=1 by omega]
 have:s.data.toList.drop i=s[i]::s.data.toList.drop (i+1):=List.drop_eq_getElem_cons h;rw [this];rfl
theorem hex_str:∀ d:Nat,d < 16->(⟨#[48,49,50,51,52,53,54,55,56,57,97,98,99,100,101,102]⟩:ByteArray).extract d (d+1)=byS [Tk.hexd d]:=by decide
theorem cat_c (a b:List UInt8) (x:ByteArray) (h:x=byS b):byS a++x=byS (a++b):=by rw [h];exact cat_by a b
def RqRel (s:ByteArray) (v vi:Value):Prop :=
 ∃ (k:Nat) (acc:List UInt8),k<=s.size/\vi=.int .i64 (k:Int)/\v=.string (byS acc)/\Hid (acc=34::(s.data.toList.take k).flatMap Tk.qc)/\acc.length<=1+4 * k
theorem rquote_any (s:ByteArray) (w:World) (hs:s.size<=100000000) :
  Calls Tryz.prog 78 #[.string s] w fun e w'=>e=.returned (.string (byS (Tk.quote s.data.toList)))/\∃ q,w'=w.drewN q:=by
 have hlen:s.data.toList.length=s.size:=by simp
 have H0:Hid (Value.string ⟨#[34]⟩=.string (byS [34])):=rfl;go_enter Tryz.func78,Tryz.ntmps78;go_wp2_with fail
 go_loopw [4,5] (fun v4 v5 wr=>RqRel s v4 v5/\∃ q,wr=w.drewN q) (fun _ v5 _=>s.size - (intOf v5).toNat)
 case atStart=>exact⟨⟨0,[34],Nat.zero_le _,rfl,rfl,rfl,by simp⟩,0,rfl⟩
 case round =>
  obtain⟨⟨k,acc,hk,rfl,rfl,hacc,hal⟩,q,rfl⟩:=hrel;have hsa:(byS acc).size=acc.length:=byS_size _;by_cases hlt:k < s.size
  ·
   have hcn:=(s[k]).toNat_lt;have HST:Hid (34::(s.data.toList.take (k+1)).flatMap Tk.qc=acc++Tk.qc s[k]):=by
    show _=_;rw [Tk.take_step (l:=s.data.toList) (k:=k) (by rw [hlen];exact hlt),hacc.out];rfl
   have hone:=one_str s k hlt;have HT:Hid (Tk.qc s[k]=if s[k].toNat=34\/s[k].toNat=92 then [92,s[k]] else if s[k].toNat=10 then [92,110] else if s[k].toNat=9 then [92,116]
    else if s[k].toNat < 32\/s[k].toNat > 126 then [92,120,Tk.hexd (s[k].toNat / 16),Tk.hexd (s[k].toNat % 16)] else [s[k]]):=rfl
   have hqn:=Tk.qc_len s[k];have c92:=cat_c acc [92] ⟨#[92]⟩ rfl;have s92:(⟨#[92]⟩:ByteArray).size=1:=rfl;have hk0:0<=(k:Int):=by omega
   have hk1:(k:Int)<=(k:Int)+1:=by omega
   have hk2:(k:Int)+1<=(s.size:Int):=by omega
   have htk:((k:Int)+1).toNat=k+1:=by omega
   have s1:(byS [s[k]]).size=1:=rfl;have s2:(byS (acc++[92])).size=acc.length+1:=by rw [byS_size];simp
   have c2:=cat_by (acc++[92]) [s[k]];by_cases h34:s[k].toNat=34\/s[k].toNat=92
   ·
    rw [if_pos h34] at HT;rw [HT.out] at HST;rcases (by omega:s[k].toNat=34\/(¬ s[k].toNat=34/\s[k].toNat=92)) with j | ⟨j1,j2⟩
    ·
     have b1:((s[k].toNat:Int)==34)=true:=by simp;omega
     clear j h34;go_wp2_with fail;refine⟨⟨⟨k+1,acc++[92,s[k]],by omega,by go_num,by simp,HST.out.symm,by simp;omega⟩,q,rfl⟩,?_⟩
     simp [intOf];omega
    ·
     have b1:((s[k].toNat:Int)==34)=false:=by simp;omega
     have b2:((s[k].toNat:Int)==92)=true:=by simp;omega
     clear j1 j2 h34;go_wp2_with fail;refine⟨⟨⟨k+1,acc++[92,s[k]],by omega,by go_num,by simp,HST.out.symm,by simp;omega⟩,q,rfl⟩,?_⟩
     simp [intOf];omega
   rw [if_neg h34] at HT;have b1:((s[k].toNat:Int)==34)=false:=by simp;omega
   have b2:((s[k].toNat:Int)==92)=false:=by simp;omega
   clear h34;by_cases h10:s[k].toNat=10
   ·
    rw [if_pos h10] at HT;rw [HT.out] at HST;have b3:((s[k].toNat:Int)==10)=true:=by simp;omega
    have cn:=cat_c acc [92,110] ⟨#[92,110]⟩ rfl;have sn:(⟨#[92,110]⟩:ByteArray).size=2:=rfl;clear h10;go_wp2_with fail;refine⟨⟨⟨k+1,acc++[92,110],by omega,by go_num,by simp,HST.out.symm,by simp;omega⟩,q,rfl⟩,?_⟩
    simp [intOf];omega
   rw [if_neg h10] at HT;have b3:((s[k].toNat:Int)==10)=false:=by simp;omega
   clear h10;by_cases h9:s[k].toNat=9
   ·
    rw [if_pos h9] at HT;rw [HT.out] at HST;have b4:((s[k].toNat:Int)==9)=true:=by simp;omega
    have cn:=cat_c acc [92,116] ⟨#[92,116]⟩ rfl;have sn:(⟨#[92,116]⟩:ByteArray).size=2:=rfl;clear h9;go_wp2_with fail;refine⟨⟨⟨k+1,acc++[92,116],by omega,by go_num,by simp,HST.out.symm,by simp;omega⟩,q,rfl⟩,?_⟩
    simp [intOf];omega
   rw [if_neg h9] at HT;have b4:((s[k].toNat:Int)==9)=false:=by simp;omega
   clear h9;by_cases hr:s[k].toNat < 32\/s[k].toNat > 126
   ·
    rw [if_pos hr] at HT;rw [HT.out] at HST;have hg:=hex_str (s[k].toNat / 16) (by omega)
    have hh:=hex_str (s[k].toNat % 16) (by omega)
    have hw1:IntKind.u8.wrap ((s[k].toNat:Int) / 16)=(s[k].toNat:Int) / 16:=by unfold IntKind.wrap;simp [IntKind.bits,IntKind.signed];omega
    have hw2:IntKind.u8.wrap ((s[k].toNat:Int) % 16)=(s[k].toNat:Int) % 16:=by unfold IntKind.wrap;simp [IntKind.bits,IntKind.signed];omega
    have hw3:IntKind.u8.wrap ((s[k].toNat:Int) / 16+1)=(s[k].toNat:Int) / 16+1:=by unfold IntKind.wrap;simp [IntKind.bits,IntKind.signed];omega
    have hw4:IntKind.u8.wrap ((s[k].toNat:Int) % 16+1)=(s[k].toNat:Int) % 16+1:=by unfold IntKind.wrap;simp [IntKind.bits,IntKind.signed];omega
    have htm:(s[k].toNat:Int).tmod 16=(s[k].toNat:Int) % 16:=rfl;have htd:(s[k].toNat:Int).tdiv 16=(s[k].toNat:Int) / 16:=rfl;have ht1:((s[k].toNat:Int) / 16).toNat=s[k].toNat / 16:=by omega
    have ht2:((s[k].toNat:Int) % 16).toNat=s[k].toNat % 16:=by omega
    have ht3:((s[k].toNat:Int) / 16+1).toNat=s[k].toNat / 16+1:=by omega
    have ht4:((s[k].toNat:Int) % 16+1).toNat=s[k].toNat % 16+1:=by omega
    have hq0:0<=(s[k].toNat:Int) / 16:=by omega
    have hq1:(s[k].toNat:Int) / 16+1<=16:=by omega
    have hq2:0<=(s[k].toNat:Int) % 16:=by omega
    have hq3:(s[k].toNat:Int) % 16+1<=16:=by omega
    generalize Tk.hexd (s[k].toNat / 16)=g1 at *;generalize Tk.hexd (s[k].toNat % 16)=g2 at *;have cx:=cat_c acc [92,120] ⟨#[92,120]⟩ rfl;have sx:(⟨#[92,120]⟩:ByteArray).size=2:=rfl;have sx2:(byS (acc++[92,120])).size=acc.length+2:=by rw [byS_size];simp
    have sg1:(byS [g1]).size=1:=rfl;have sg2:(byS [g2]).size=1:=rfl;have cg1:byS (acc++[92,120])++byS [g1]=byS (acc++[92,120,g1]):=by rw [cat_by];simp
    have cg2:byS (acc++[92,120,g1])++byS [g2]=byS (acc++[92,120,g1,g2]):=by rw [cat_by];simp
    have sx3:(byS (acc++[92,120,g1])).size=acc.length+3:=by rw [byS_size];simp
    rcases (by omega:¬ (32:Int)<=(s[k].toNat:Int)\/((32:Int)<=(s[k].toNat:Int)/\¬ (s[k].toNat:Int)<=126)) with j1 | ⟨j1,j2⟩
    ·
     clear hr;go_wp2_with fail
     go_quiet (fail)
     go_wp2_with fail
     refine⟨⟨⟨k+1,acc++[92,120,g1,g2],by omega,by go_num,by simp,HST.out.symm,by simp;omega⟩,_,rfl⟩,?_⟩
     simp [intOf];omega
    ·
     clear hr;go_wp2_with fail
     go_quiet (fail)
     go_wp2_with fail
     refine⟨⟨⟨k+1,acc++[92,120,g1,g2],by omega,by go_num,by simp,HST.out.symm,by simp;omega⟩,_,rfl⟩,?_⟩
     simp [intOf];omega
   ·
    rw [if_neg hr] at HT;rw [HT.out] at HST;have j1:(32:Int)<=(s[k].toNat:Int):=by omega
    have j2:(s[k].toNat:Int)<=126:=by omega
    have c1:=cat_by acc [s[k]];clear hr;go_wp2_with fail;refine⟨⟨⟨k+1,acc++[s[k]],by omega,by go_num,by simp,HST.out.symm,by simp;omega⟩,q,rfl⟩,?_⟩
    simp [intOf];omega
  ·
   have hk2:k=s.size:=by omega
   have HQ:Hid (Tk.quote s.data.toList=acc++[34]):=by
    show _=_;rw [hacc.out,hk2,List.take_of_length_le (by rw [hlen];exact Nat.le_refl _)];rfl
   have c34:=cat_c acc [34] ⟨#[34]⟩ rfl;have s34:(⟨#[34]⟩:ByteArray).size=1:=rfl;clear hk2;go_wp2_with fail;go_ret;exact⟨by rw [HQ.out];rfl,q,rfl⟩
end Go.Proofs.YtgeppafcemeidaaGreatDoor
namespace Go.Proofs.YtgeppafcemeidaaGreatDoor
open Go.RowKit
open Sy (N)
theorem cat_mk (a b:List UInt8):(⟨a.toArray⟩:ByteArray)++(⟨b.toArray⟩:ByteArray)=⟨(a++b).toArray⟩:=cat_list a _ b rfl
theorem bx_five9 {w wr:World} {a0 a1 a2 a3 a4:Value} (h:Bx w #[a0,a1,a2,a3,a4] wr) :
  wr.cell? ⟨w.heap.size,0,none⟩=some a0/\wr.cell? ⟨w.heap.size,1,none⟩=some a1/\wr.cell? ⟨w.heap.size,2,none⟩=some a2/\wr.cell? ⟨w.heap.size,3,none⟩=some a3/\wr.cell? ⟨w.heap.size,4,none⟩=some a4 :=
 ⟨h.cell 0,h.cell 1,h.cell 2,h.cell 3,h.cell 4⟩
section
variable {w:World} {S:Nat->Prop} {A:Option Addr} {c b o e i:Nat} {l:List N} {kd:N}
theorem kid_addr (h:KR w S (.slice A l.length c) l) (hi:l[i]? = some kd):∃ b o,A=some ⟨b,o,none⟩:=by
 obtain⟨xs,h1,h2⟩:=h;obtain⟨hi,_⟩:=List.getElem?_eq_some_iff.1 hi;obtain⟨b,o,cc,A1,c1,he,_⟩:=kids_at h1 h2 i hi;injection he with he1;exact⟨b,o,he1⟩
theorem kid_all (h:KR w S (.slice (some ⟨b,o,none⟩) l.length c) l) (hi:l[i]? = some kd) (he:e=o+i * 5) :
  ∃ (A1:Option Addr) (c1:Nat),Hid (∀ W,Below w.heap.size w W->W.cell? ⟨b,e,none⟩=some (.int .i64 kd.op)/\W.cell? ⟨b,e+1,none⟩=some (.string ⟨kd.nm.toArray⟩)/\W.cell? ⟨b,e+2,none⟩=some (.int .i64 kd.n)/\W.cell? ⟨b,e+3,none⟩=some (.string ⟨kd.t.toArray⟩)/\W.cell? ⟨b,e+4,none⟩=some (.slice A1 kd.l.length c1) /\
   NA W S (.agg #[.int .i64 kd.op,.string ⟨kd.nm.toArray⟩,.int .i64 kd.n,.string ⟨kd.t.toArray⟩,.slice A1 kd.l.length c1]) kd):=by
 obtain⟨xs,h1,h2⟩:=h;obtain⟨hi,hk⟩:=List.getElem?_eq_some_iff.1 hi;obtain⟨b',o',cc,A1,c1,he2,q0,q1,q2,q3,q4,hn⟩:=kids_at h1 h2 i hi;injection he2 with he1;injection he1 with he1;injection he1 with e1 e2 e3;subst e1 e2 he hk;have kk:∀ {W:World} {p:Addr} {u:Value},Below w.heap.size w W->w.cell? p=some u->W.cell? p=some u:=fun hW hc=>(hW.cell (World.block_lt_of_cell? w _ hc)).trans hc
 exact⟨A1,c1,fun W hW=>⟨kk hW q0,kk hW q1,kk hW q2,kk hW q3,kk hW q4,hn.below hW⟩⟩
end
def RP9 (w:World) (s:List UInt8):Ending->World->Prop:=fun e w'=>e=.returned (.string ⟨s.toArray⟩)/\Below w.heap.size w w'
def RX9 (m:Nat):Prop:=∀ (v:N) (a:Value) (w:World) (S:Nat->Prop),Sy.N.size v<=m->Sy.rX v=true->NA w S a v->(Sy.X v).length<=1099511627776->Calls Tryz.prog 43 #[a] w (RP9 w (Sy.X v))
def LstRel (w:World) (l:List N) (v3 v4:Value) (wr:World):Prop :=
 ∃ k:Nat,k<=l.length/\v4=.int .i64 (k:Int)/\v3=.string ⟨(Sy.glue ((l.map Sy.X).take k)).toArray⟩/\Below w.heap.size w wr
theorem glue_le9 (l:List (List UInt8)) (k:Nat):(Sy.glue (l.take k)).length<=(Sy.glue l).length:=by
 cases l with
 | nil=>simp
 | cons a l =>
  cases k with
  | zero=>simp [Sy.glue]
  | succ k =>
   rw [List.take_succ_cons];unfold Sy.glue;rw [List.length_append,List.length_append,<- List.take_append_drop k l,List.flatMap_append,List.length_append];simp
theorem rlist_any {m:Nat} (HE:RX9 m) (l:List N) (A:Option Addr) (c:Nat) (w:World) (S:Nat->Prop) (hk:KR w S (.slice A l.length c) l) (hs:∀ v∈l,Sy.N.size v<=m/\Sy.rX v=true) (hn:l.length<=4398046511104) (hl:(Sy.glue (l.map Sy.X)).length<=1099511627776) :
  Calls Tryz.prog 67 #[.slice A l.length c] w (RP9 w (Sy.glue (l.map Sy.X))):=by
 have HE:=hid HE;have HK:=hid hk;have HS:=hid hs;have HL:=hid hl;clear hk hs hl;go_enter Tryz.func67,Tryz.ntmps67;go_wp2_with fail
 go_loopw [3,4] (fun v3 v4 wr=>LstRel w l v3 v4 wr) (fun _ v4 _=>l.length - (intOf v4).toNat)
 case atStart=>exact⟨0,Nat.zero_le _,rfl,rfl,Below.refl _ _⟩
 case round =>
  obtain⟨k,hk,rfl,rfl,hb⟩:=hrel;have HB:=hid hb;clear hb;by_cases hlt:k < l.length
  ·
   have h0:l[k]? = some l[k]:=List.getElem?_eq_getElem hlt;obtain⟨b,o,rfl⟩:=kid_addr HK.out h0;obtain⟨A0,c0,HK0⟩:=kid_all (e:=o+k * 5) HK.out h0 rfl;obtain⟨q0,q1,q2,q3,q4,hna⟩:=HK0.out _ HB.out;have HNA:=hid hna;obtain⟨hz,ha⟩:=HS.out l[k] (List.getElem_mem hlt);have HZ:=hid (And.intro hz ha);have HT:Hid (Sy.glue ((l.map Sy.X).take (k+1))=Sy.glue ((l.map Sy.X).take k)++((if k=0 then [] else [44,32])++Sy.X l[k])):=by
    show _=_;rw [Sy.glue_take (by simpa using hlt),List.getElem_map]
   have hg1:=glue_le9 (l.map Sy.X) (k+1);rw [HT.out] at hg1;have hbn:(Sy.glue ((l.map Sy.X).take k)).length<=1099511627776/\(Sy.X l[k]).length<=1099511627776:=by
    have:=HL.out;simp only [List.length_append] at hg1;omega
   obtain⟨hb1,hb2⟩:=hbn;clear hz ha h0 hna hg1;generalize Sy.glue ((l.map Sy.X).take k)=acc at *;generalize l[k]=kd at *;have HB2:=hid hb2;clear hb2;have hx2:(Sy.X kd).length<=1099511627776:=HB2.out;generalize hX:Sy.X kd=xk at *;have HX:=hid hX;clear hX;by_cases h0:k=0
   ·
    rw [if_pos h0,List.nil_append] at HT;have h0':(k:Int)<=0:=by omega
    clear h0;go_wp2_with fail;refine(HE.out kd _ _ _ HZ.out.1 HZ.out.2 HNA.out (by rw [HX.out];exact HB2.out)).mono ?_
    rintro e w2 ⟨rfl,hb⟩;have HB3:=hid (HB.out.trans (hb.mono HB.out.size));rw [HX.out];clear hb;go_wp2_with fail;refine⟨⟨k+1,by omega,by go_num,by rw [HT.out];exact congrArg Value.string (cat_mk _ _),HB3.out⟩,?_⟩
    simp [intOf];omega
   ·
    rw [if_neg h0] at HT;have h0':0 < (k:Int):=by omega
    clear h0;go_wp2_with fail;refine(HE.out kd _ _ _ HZ.out.1 HZ.out.2 HNA.out (by rw [HX.out];exact HB2.out)).mono ?_
    rintro e w2 ⟨rfl,hb⟩;have HB3:=hid (HB.out.trans (hb.mono HB.out.size));rw [HX.out];clear hb;go_wp2_with fail;refine⟨⟨k+1,by omega,by go_num,by rw [HT.out];exact congrArg Value.string (by rw [cat_mk,cat_mk,List.append_assoc]),HB3.out⟩,?_⟩
    simp [intOf];omega
  ·
   have hk2:k=l.length:=by omega
   subst hk2;have HT:Hid ((l.map Sy.X).take l.length=l.map Sy.X):=by show _=_;rw [<- List.length_map (f:=Sy.X),List.take_length]
   go_wp2_with fail
   go_ret;exact⟨by rw [HT.out]<;>rfl,HB.out⟩
end Go.Proofs.YtgeppafcemeidaaGreatDoor
namespace Go.Proofs.YtgeppafcemeidaaGreatDoor
open Go.RowKit
open Sy (N)
namespace Sy
theorem sms_mem {v:N} {l:List N} (h:sms l=true) (hv:v∈l):sm v=true:=by rw [sms_all] at h;exact List.all_eq_true.1 h v hv
theorem mss_take {l:List N} {k:Nat} (h:k < l.length):mss (l.take (k+1))=mss (l.take k)+ms l[k]:=by
 have:∀ a b:List N,mss (a++b)=mss a+mss b:=by
  intro a b;induction a with
  | nil=>rw [List.nil_append,mss_nil];omega
  | cons x a ih=>rw [List.cons_append,mss_cons,mss_cons,ih];omega
 rw [List.take_succ_eq_append_getElem h,this,mss_cons,mss_nil];omega
theorem size_ms (v:N):N.size v<=ms v:=by
 induction v using nInd with
 | h op nm n t l ih =>
  rw [ms_mk,N.size_mk];have:∀ k:List N,(∀ v∈k,v∈l)->N.sizeL k<=mss k:=by
   intro k;induction k with
   | nil=>intro _;rw [mss_nil,N.sizeL_nil];omega
   | cons v k ih2 =>
    intro hk;have h3:=ih v (hk v (by simp))
    have h4:=ih2 fun u hu=>hk u (by simp [hu])
    rw [mss_cons,N.sizeL];omega
  have h5:=this l fun _ h=>h
  omega
end Sy
def FewR (v:N) (most:Int) (r:Int):Prop:=(0<=r->(Sy.ms v:Int)+r=most)/\-300000000000000<=r/\r<=most
def FewRel (w:World) (cs:Array Value) (a:Nat) (l:List N) (most:Int) (v1 v5:Value) (wr:World):Prop :=
 ∃ (i:Nat) (r:Int),i<=l.length/\v5=.int .i64 (i:Int)/\v1=.int .i64 r/\(0<=r->((a+Sy.mss (l.take i):Nat):Int)+r=most)/\-300000000000000<=r/\r<=most/\Bx w cs wr
theorem few9_any (m:Nat):∀ (v:N) (a:Value) (most:Int) (w:World) (S:Nat->Prop),Sy.N.depth v<=m->Sy.sm v=true->0<=most->most<=6000->NA w S a v ->
  Calls Tryz.prog 18 #[a,.int .i64 most] w fun e w'=>(∃ r:Int,e=.returned (.int .i64 r)/\FewR v most r)/\Below w.heap.size w w':=by
 induction m with
 | zero=>intro v a most w S h;obtain⟨op,nm,n,t,l⟩:=v;rw [Sy.N.depth_mk] at h;omega
 | succ m ih =>
  intro v a most w S hm hsm h0 h1 hna;obtain⟨op,nm,n,t,l⟩:=v;obtain⟨A,c,rfl,hok,hk⟩:=hna.open_;simp only [Sy.N.op,Sy.N.nm,Sy.N.n,Sy.N.t,Sy.N.l] at hok hk |-
  rw [Sy.sm,Bool.and_eq_true,Bool.and_eq_true,decide_eq_true_eq,decide_eq_true_eq] at hsm;obtain⟨⟨hs1,hs2⟩,hs3⟩:=hsm;have HS:Hid (∀ u∈l,Sy.N.depth u<=m/\Sy.sm u=true):=fun u hu=>⟨by have:=Sy.depth_le hu;rw [Sy.N.depth_mk] at hm;omega,Sy.sms_mem hs3 hu⟩
  have HK:=hid hk;have IH:=hid ih;have hln:l.length<=4398046511104:=by have:=hok.2.2.2.2.2.2;omega
  have hat:FewRel w #[.int .i64 op,.string ⟨nm.toArray⟩,.int .i64 n,.string ⟨t.toArray⟩,.slice A l.length c] (1+nm.length+t.length) l most (.int .i64 (most - 1 - (nm.length:Int) - (t.length:Int))) (.int .i64 0) (w.alloc (.cells #[.int .i64 op,.string ⟨nm.toArray⟩,.int .i64 n,.string ⟨t.toArray⟩,.slice A l.length c] 25)) :=
   ⟨0,_,Nat.zero_le _,rfl,rfl,fun _=>by rw [List.take_zero,Sy.mss_nil];omega,by omega,by omega,Bx.refl⟩
  have HAT:=hid hat;have HMS:Hid (Sy.ms (.mk op nm n t l)=1+nm.length+t.length+Sy.mss l):=Sy.ms_mk;clear ih hna hok hk hs3 hm hat;go_enter Tryz.func18,Tryz.ntmps18;go_wp2_with fail
  go_loopw [1,5] (fun v1 v5 wr=>FewRel w #[.int .i64 op,.string ⟨nm.toArray⟩,.int .i64 n,.string ⟨t.toArray⟩,.slice A l.length c] (1+nm.length+t.length) l most v1 v5 wr) (fun _ v5 _=>l.length - (intOf v5).toNat)
  case atStart=>exact HAT.out
  case round =>
   clear HAT;obtain⟨i,r,hi,rfl,rfl,hr,hr1,hr2,hbx⟩:=hrel;have HX:=hid hbx;have HR:=hid hr;clear hbx hr;obtain⟨q0,q1,q2,q3,q4⟩:=bx_five9 HX.out;by_cases hlt:i < l.length
   ·
    by_cases hr0:0<=r
    ·
     have g0:l[i]? = some l[i]:=List.getElem?_eq_getElem hlt;obtain⟨b,o,rfl⟩:=kid_addr HK.out g0;obtain⟨A0,c0,HK0⟩:=kid_all (e:=o+i * 5) HK.out g0 rfl;obtain⟨k00,k01,k02,k03,k04,hna⟩:=HK0.out _ HX.out.below;obtain⟨d1,d2⟩:=HS.out l[i] (List.getElem_mem hlt);have CI:=hid (IH.out l[i] _ r _ S d1 d2 hr0 (by omega) hna)
     have HT:=hid (Sy.mss_take hlt);clear g0 hna d1 d2;generalize l[i]=kd at *;go_wp2_with fail;refine CI.out.mono ?_;rintro e w2 ⟨⟨r2,rfl,hf1,hf2,hf3⟩,hb⟩;replace HX:=hid (HX.out.step hb);clear hb;go_wp2_with fail;refine⟨⟨i+1,r2,by omega,by go_num,rfl,fun h=>?_,hf2,by omega,HX.out⟩,?_⟩
     ·
      have h1:=hf1 h;have h2:=HR.out hr0;rw [HT.out];omega
     ·
      simp [intOf];omega
    ·
     go_wp2_with fail
     go_ret;exact⟨⟨r,rfl,fun h=>by omega,hr1,hr2⟩,HX.out.below⟩
   ·
    have hk2:i=l.length:=by omega
    subst hk2;go_wp2_with fail;go_ret;refine⟨⟨r,rfl,fun h=>?_,hr1,hr2⟩,HX.out.below⟩
    have h2:=HR.out h;rw [List.take_length] at h2;rw [HMS.out];exact h2
end Go.Proofs.YtgeppafcemeidaaGreatDoor
namespace Go.Proofs.YtgeppafcemeidaaGreatDoor
open Go.RowKit
open Sy (N NT R Ev Run Pg fx hd body opnd inf RunN EvN nd nmd PO Out)
open Tk (T)
namespace Sy
def ls1:List UInt8:=[40,97,43,98,41,42,45,99]
def lt1:List T:=[⟨5,0,[40],0⟩,⟨1,1,[97],0⟩,⟨5,2,[43],0⟩,⟨1,3,[98],0⟩,⟨5,4,[41],0⟩,⟨5,5,[42],0⟩,⟨5,6,[45],0⟩,⟨1,7,[99],0⟩,⟨0,8,[],0⟩]
theorem lsc1:Tk.scanA ls1=.good lt1:=by decide
def ln1:N:=.mk 15 [] 0 [] [.mk 18 [] 0 [] [.mk 6 [97] 0 [] [],.mk 6 [98] 0 [] []],.mk 14 [] 0 [] [.mk 6 [99] 0 [] []]]
theorem le1:Ev (.chain 1) lt1 (.ok ln1 [⟨0,8,[],0⟩]):=ev_run 200 _ _ rfl
theorem lo1:Out (.chain 1) ls1 (.tree ln1):=by unfold Out;rw [lsc1];exact⟨_,le1,rfl⟩
def ls2:List UInt8:=[97,43,40,98,42,99,41]
def lt2:List T:=[⟨1,0,[97],0⟩,⟨5,1,[43],0⟩,⟨5,2,[40],0⟩,⟨1,3,[98],0⟩,⟨5,4,[42],0⟩,⟨1,5,[99],0⟩,⟨5,6,[41],0⟩,⟨0,7,[],0⟩]
theorem lsc2:Tk.scanA ls2=.good lt2:=by decide
def ln2:N:=.mk 18 [] 0 [] [.mk 6 [97] 0 [] [],.mk 15 [] 0 [] [.mk 6 [98] 0 [] [],.mk 6 [99] 0 [] []]]
theorem le2:Ev (.chain 1) lt2 (.ok ln2 [⟨0,7,[],0⟩]):=ev_run 200 _ _ rfl
theorem lo2:Out (.chain 1) ls2 (.tree ln2):=by unfold Out;rw [lsc2];exact⟨_,le2,rfl⟩
def ls3:List UInt8:=[102,117,110,99,32,109,97,105,110,40,120,41,123,105,102,32,120,123,114,101,116,117,114,110,32,49,59,125,101,108,115,101,123,116,104,114,111,119,32,34,110,34,59,125,125]
def lt3:List T:=[⟨2,0,[102,117,110,99],0⟩,⟨1,5,[109,97,105,110],0⟩,⟨5,9,[40],0⟩,⟨1,10,[120],0⟩,⟨5,11,[41],0⟩,⟨5,12,[123],0⟩,⟨2,13,[105,102],0⟩,⟨1,16,[120],0⟩,⟨5,17,[123],0⟩,⟨2,18,[114,101,116,117,114,110],0⟩,⟨3,25,[],1⟩,⟨5,26,[59],0⟩,⟨5,27,[125],0⟩,⟨2,28,[101,108,115,101],0⟩,⟨5,32,[123],0⟩,⟨2,33,[116,104,114,111,119],0⟩,⟨4,39,[110],0⟩,⟨5,42,[59],0⟩,⟨5,43,[125],0⟩,⟨5,44,[125],0⟩,⟨0,45,[],0⟩]
theorem lsc3:Tk.scanA ls3=.good lt3:=by decide
def ln3:N:=.mk 60 [] 0 [] [.mk 62 [109,97,105,110] 0 [] [.mk 6 [120] 0 [] [],.mk 53 [] 0 [] [.mk 42 [] 0 [] [.mk 6 [120] 0 [] [],.mk 53 [] 0 [] [.mk 44 [] 0 [] [.mk 4 [] 1 [] []]],.mk 53 [] 0 [] [.mk 45 [] 0 [] [.mk 5 [] 0 [110] []]]]]]]
theorem le3:Ev .prog lt3 (.ok ln3 [⟨0,45,[],0⟩]):=ev_run 200 _ _ rfl
theorem lo3:Out .prog ls3 (.tree ln3):=by unfold Out;rw [lsc3];exact⟨_,le3,rfl⟩
def lx1:List UInt8:=[40,97,32,43,32,98,41,32,42,32,45,99]
def lx2:List UInt8:=[97,32,43,32,98,32,42,32,99]
def lx3:List UInt8:=[102,117,110,99,32,109,97,105,110,40,120,41,32,123,10,32,32,105,102,32,120,32,123,10,32,32,32,32,114,101,116,117,114,110,32,49,59,10,32,32,125,32,101,108,115,101,32,123,10,32,32,32,32,116,104,114,111,119,32,34,110,34,59,10,32,32,125,10,125,10]
end Sy
theorem lp1:prX Sy.ln1=(Sy.lx1,0):=by decide +kernel
theorem lp2:prX Sy.ln2=(Sy.lx2,0):=by decide +kernel
theorem lp3:pr Sy.ln3=(Sy.lx3,0):=by decide +kernel
end Go.Proofs.YtgeppafcemeidaaGreatDoor
namespace Go.Proofs.YtgeppafcemeidaaGreatDoor
open Go.RowKit
open Sy (N NT R Ev Run Pg fx hd body opnd inf RunN EvN nd nmd PO Out)
open Tk (T)
theorem format_tree (s:ByteArray) (v:N) (ho:Out .prog s.data.toList (.tree v)) (w:World) (hG:Good w) :
  Calls Tryz.prog 24 #[.string s] w fun e w'=>e=.returned (.tuple #[.string ⟨(pr v).1.toArray⟩,.int .i64 0,.int .i64 (pr v).2])/\Below w.heap.size w w':=by
 have CP:=hid (Parse_any s _ ho w hG);have HG:=hid hG;clear ho hG;go_enter Tryz.func24,Tryz.ntmps24;go_wp2_with fail;refine CP.out.mono ?_;rintro e w1 ⟨A1,c1,rfl,hn1,hb1⟩;have HB:=hid hb1;have N1:=hid hn1;clear hn1 hb1;unfold ndV;have CQ:=hid (fun W (hW:Below w1.heap.size w1 W)=>print_any v _ W _ (HG.out.below (bstep HB.out hW)) (N1.out.below hW))
 unfold ndV at CQ;have HX:=hid (bl (w:=w1) (.cells #[.int .i64 v.op,.string ⟨v.nm.toArray⟩,.int .i64 v.n,.string ⟨v.t.toArray⟩,.slice A1 v.l.length c1] 25));clear N1;go_wp2_with fail;refine(CQ.out _ HX.out).mono ?_;rintro e w2 ⟨rfl,hb2⟩;have HB2:=hid (bstep HB.out (bstep HX.out hb2));clear hb2;go_wp2_with fail;refine bodyPost_ret (v:=.tuple #[.string ⟨(pr v).1.toArray⟩,.int .i64 0,.int .i64 (pr v).2]) (by simp [results,Tryz.results24,go_sem]) rfl ⟨rfl,HB2.out⟩
theorem lives_any (w:World) (hG:Good w):Calls Tryz.prog 19 #[] w fun e w'=>e=.returned (.bool true)/\Below w.heap.size w w':=by
 have HG:=hid hG;have C1:=hid (Expr_any ⟨Sy.ls1.toArray⟩ _ Sy.lo1 w hG);have C2:=hid (fun W hW=>Expr_any ⟨Sy.ls2.toArray⟩ _ Sy.lo2 W (hG.below hW))
 have C3:=hid (fun W hW=>format_tree ⟨Sy.ls3.toArray⟩ _ Sy.lo3 W (hG.below hW))
 rw [lp3] at C3;clear hG;go_enter Tryz.func19,Tryz.ntmps19;go_wp2_with fail;refine C1.out.mono ?_;rintro e w1 ⟨A1,c1,rfl,hn1,hb1⟩;have HB:=hid hb1;have P1:=hid (fun W (hW:Below w1.heap.size w1 W)=>printX_any Sy.ln1 _ W _ (HG.out.below (bstep HB.out hW)) (hn1.below hW))
 rw [lp1] at P1;have HX:=hid (bl (w:=w1) (.cells #[.int .i64 15,.string ⟨[].toArray⟩,.int .i64 0,.string ⟨[].toArray⟩,.slice A1 2 c1] 25));clear hn1 hb1;unfold ndV at P1 |-
 rw [show Sy.ln1.op=15 from rfl,show Sy.ln1.nm=[] from rfl,show Sy.ln1.n=0 from rfl,show Sy.ln1.t=[] from rfl,show Sy.ln1.l.length=2 from rfl] at P1 |-
 go_wp2_with fail
 refine(P1.out _ HX.out).mono ?_;rintro e w2 ⟨rfl,hb2⟩;replace HB:=hid (bstep HB.out (bstep HX.out hb2));clear hb2 HX P1;go_wp2_with fail;refine(C2.out _ HB.out).mono ?_;rintro e w3 ⟨A2,c2,rfl,hn2,hb3⟩;replace HB:=hid (bstep HB.out hb3);have P2:=hid (fun W (hW:Below w3.heap.size w3 W)=>printX_any Sy.ln2 _ W _ (HG.out.below (bstep HB.out hW)) (hn2.below hW))
 rw [lp2] at P2;have HX:=hid (bl (w:=w3) (.cells #[.int .i64 18,.string ⟨[].toArray⟩,.int .i64 0,.string ⟨[].toArray⟩,.slice A2 2 c2] 25));clear hn2 hb3;unfold ndV at P2 |-
 rw [show Sy.ln2.op=18 from rfl,show Sy.ln2.nm=[] from rfl,show Sy.ln2.n=0 from rfl,show Sy.ln2.t=[] from rfl,show Sy.ln2.l.length=2 from rfl] at P2 |-
 go_wp2_with fail
 refine(P2.out _ HX.out).mono ?_;rintro e w4 ⟨rfl,hb4⟩;replace HB:=hid (bstep HB.out (bstep HX.out hb4));clear hb4 HX P2;go_wp2_with fail;refine(C3.out _ HB.out).mono ?_;rintro e w5 ⟨rfl,hb5⟩;replace HB:=hid (bstep HB.out hb5);clear hb5;unfold Sy.lx1 Sy.lx2 Sy.lx3;go_wp2_with fail;go_ret;exact⟨rfl,HB.out⟩
end Go.Proofs.YtgeppafcemeidaaGreatDoor
namespace Go.Proofs.YtgeppafcemeidaaGreatDoor
open Go.RowKit
open Sy (N)
theorem rwithin9_any {m:Nat} (HE:RX9 m) (least:Nat) {li:Int} (hli:li=(least:Int)) (v:N) (a:Value) (w:World) (S:Nat->Prop) (hz:Sy.N.size v<=m) (hr:Sy.rX v=true) (hna:NA w S a v) (hl:(Sy.par least v.op (Sy.X v)).length<=1099511627776) :
  Calls Tryz.prog 80 #[a,.int .i64 li] w (RP9 w (Sy.par least v.op (Sy.X v))):=by
 subst hli;have HE:=hid (fun W hW hx=>HE v a W S hz hr (hna.below hW) hx)
 have ha:=(Sy.rX_aX v).1 hr;have hop:1<=v.op/\v.op<=29:=by
  obtain⟨op,nm,n,t,l⟩:=v;have:=Sy.aX_mk ha;exact⟨this.1,this.2.1⟩
 have CL:=hid (fun W=>rlevel9_any v.op W hop.1 hop.2)
 have hlv:=lev_le v.op;have HP:Hid (Sy.par least v.op (Sy.X v)=if Sy.lev v.op < least then 40::(Sy.X v++[41]) else Sy.X v):=rfl
 rw [HP.out] at hl |-
 clear HP hop ha hr hz;generalize Sy.lev v.op=lv at *;generalize Sy.X v=xv at *;obtain⟨A,c,rfl,hok,hk⟩:=hna.open_;have HX:=hid (Bx.refl (w:=w) (cs:=#[.int .i64 v.op,.string ⟨v.nm.toArray⟩,.int .i64 v.n,.string ⟨v.t.toArray⟩,.slice A v.l.length c]));clear hna hok hk;by_cases hp:lv < least
 ·
  rw [if_pos hp] at hl |-
  have hx:xv.length<=1099511627776:=by simp only [List.length_cons,List.length_append] at hl;omega
  have hp':(lv:Int) < (least:Int):=by omega
  have HXX:=hid hx;clear hp;go_enter Tryz.func80,Tryz.ntmps80;go_wp2_with fail;refine(CL.out _).mono ?_;rintro e w1 ⟨rfl,rfl⟩;go_wp2_with fail;refine(HE.out _ HX.out.below HXX.out).mono ?_;rintro e w1 ⟨rfl,hb⟩;have HB:=hid (HX.out.step hb);clear hb;go_wp2_with fail;go_ret;exact⟨congrArg (fun z=>Ending.returned (Value.string z)) (by rw [cat_mk,cat_mk];rfl),HB.out.below⟩
 ·
  rw [if_neg hp] at hl |-
  have hp':¬ (lv:Int) < (least:Int):=by omega
  have HXX:=hid hl;clear hp;go_enter Tryz.func80,Tryz.ntmps80;go_wp2_with fail;refine(CL.out _).mono ?_;rintro e w1 ⟨rfl,rfl⟩;go_wp2_with fail;refine(HE.out _ HX.out.below HXX.out).mono ?_;rintro e w1 ⟨rfl,hb⟩;have HB:=hid (HX.out.step hb);clear hb;go_wp2_with fail;go_ret;exact⟨rfl,HB.out.below⟩
theorem rbinary_any {m:Nat} (HE:RX9 m) (op n:Int) (nm t:List UInt8) (l:List N) (A:Option Addr) (c:Nat) (w:World) (S:Nat->Prop) (hk:KR w S (.slice A l.length c) l) (hop1:15<=op) (hop2:op<=27) (a a2:N) (h0:l[0]? = some a) (h1:l[1]? = some a2) (hz:Sy.N.size a<=m) (ha:Sy.rX a=true) (hz2:Sy.N.size a2<=m) (ha2:Sy.rX a2=true) (hl:(Sy.par (Sy.lft op) a.op (Sy.X a)++32::(Sy.sgn op++32::Sy.par (Sy.lev op+1) a2.op (Sy.X a2))).length<=1099511627776) :
  Calls Tryz.prog 76 #[.agg #[.int .i64 op,.string ⟨nm.toArray⟩,.int .i64 n,.string ⟨t.toArray⟩,.slice A l.length c]] w (RP9 w (Sy.par (Sy.lft op) a.op (Sy.X a)++32::(Sy.sgn op++32::Sy.par (Sy.lev op+1) a2.op (Sy.X a2)))):=by
 have hlen1:1 < l.length:=(List.getElem?_eq_some_iff.1 h1).1;have hlen0:0 < l.length:=by omega
 have hlen1i:(1:Int) < (l.length:Int):=by omega
 have hlen0i:(0:Int) < (l.length:Int):=by omega
 have CL:=hid (fun W=>rlevel9_any op W (by omega) (by omega))
 have CS:=hid (fun W=>rsign9_any op W (by omega) (by omega))
 have hlv:=lev_le op;have hsg:=Sy.sgn_len op;have hl1:(Sy.par (Sy.lft op) a.op (Sy.X a)).length<=1099511627776:=by simp only [List.length_append,List.length_cons] at hl;omega
 have hl2:(Sy.par (Sy.lev op+1) a2.op (Sy.X a2)).length<=1099511627776:=by simp only [List.length_append,List.length_cons] at hl;omega
 have HLF:Hid (Sy.lft op=if Sy.lev op=4 then 5 else Sy.lev op):=rfl
 obtain⟨b,o,rfl⟩:=kid_addr hk h0;obtain⟨A0,c0,HK0⟩:=kid_all (e:=o) hk h0 (by omega)
 obtain⟨A1,c1,HK1⟩:=kid_all (e:=o+5) hk h1 (by omega)
 have CA:=hid (fun W li hli (hW:Below w.heap.size w W)=>rwithin9_any HE (Sy.lft op) (li:=li) hli a _ W S hz ha (HK0.out W hW).2.2.2.2.2 hl1)
 have CB:=hid (fun W li hli (hW:Below w.heap.size w W)=>rwithin9_any HE (Sy.lev op+1) (li:=li) hli a2 _ W S hz2 ha2 (HK1.out W hW).2.2.2.2.2 hl2)
 have HX:=hid (Bx.refl (w:=w) (cs:=#[.int .i64 op,.string ⟨nm.toArray⟩,.int .i64 n,.string ⟨t.toArray⟩,.slice (some ⟨b,o,none⟩) l.length c]));clear hop1 hop2 h0 h1 hz ha hz2 ha2 hk hl HE;generalize Sy.par (Sy.lft op) a.op (Sy.X a)=x1 at *;generalize Sy.par (Sy.lev op+1) a2.op (Sy.X a2)=x2 at *;generalize Sy.lft op=lf at *;generalize Sy.lev op=lv at *;generalize Sy.sgn op=sg at *;go_enter Tryz.func76,Tryz.ntmps76;by_cases h4:lv=4
 ·
  have hlf:lf=5:=by rw [HLF.out,if_pos h4]
  subst hlf;subst h4;clear HLF;have hwr:IntKind.i64.wrap 5=5:=IntWalk.i64_in _ (by omega)
  go_wp2_with fail
  replace HX:=hid (HX.out.step ((Below.refl _ _).drew));have p0:=bx_five9 HX.out;have p1:=HK0.out _ HX.out.below;have p2:=HK1.out _ HX.out.below;have HS:=hid (And.intro p0.1 (And.intro p0.2.1 (And.intro p0.2.2.2.2 (And.intro p1.1 (And.intro p1.2.1 (And.intro p1.2.2.1 (And.intro p1.2.2.2.1 (And.intro p1.2.2.2.2.1 (And.intro p2.1 (And.intro p2.2.1 (And.intro p2.2.2.1 (And.intro p2.2.2.2.1 p2.2.2.2.2.1))))))))))));clear p0 p1 p2;go_region_held3 (fun W=>W.cell? ⟨w.heap.size,0,none⟩=some (.int .i64 op)/\W.cell? ⟨w.heap.size,1,none⟩=some (.string ⟨nm.toArray⟩)/\W.cell? ⟨w.heap.size,4,none⟩=some (.slice (some ⟨b,o,none⟩) l.length c)/\W.cell? ⟨b,o,none⟩=some (.int .i64 a.op)/\W.cell? ⟨b,o+1,none⟩=some (.string ⟨a.nm.toArray⟩)/\W.cell? ⟨b,o+2,none⟩=some (.int .i64 a.n)/\W.cell? ⟨b,o+3,none⟩=some (.string ⟨a.t.toArray⟩)/\W.cell? ⟨b,o+4,none⟩=some (.slice A0 a.l.length c0)/\W.cell? ⟨b,o+5,none⟩=some (.int .i64 a2.op)/\W.cell? ⟨b,o+5+1,none⟩=some (.string ⟨a2.nm.toArray⟩)/\W.cell? ⟨b,o+5+2,none⟩=some (.int .i64 a2.n)/\W.cell? ⟨b,o+5+3,none⟩=some (.string ⟨a2.t.toArray⟩)/\W.cell? ⟨b,o+5+4,none⟩=some (.slice A1 a2.l.length c1))
   (first | exact HS.out | go_keep)
   (first
    | (go_at_call 124;(with_reducible refine(CL.out _).mono ?_);rintro e w4 ⟨rfl,rfl⟩))
  go_wp2_with fail
  have sm2:¬ 9223372036854775807 < x1.length+1:=by omega
  have smb2:¬ 9223372036854775806 < x1.length:=by omega
  have sm3:¬ 9223372036854775807 < x1.length+1+sg.length:=by omega
  have sm4:¬ 9223372036854775807 < x1.length+1+sg.length+1:=by omega
  have smb4:¬ 9223372036854775806 < x1.length+1+sg.length:=by omega
  have sm5:¬ 9223372036854775807 < x1.length+1+sg.length+1+x2.length:=by omega
  have CA2:=hid (fun W (hW:Below w.heap.size w W)=>CA.out W 5 (by omega) hW)
  have CB2:=hid (fun W (hW:Below w.heap.size w W)=>CB.out W 5 (by omega) hW)
  replace HX:=hid (HX.out.step ((Below.refl _ _).drew));have p0:=bx_five9 HX.out;have p1:=HK0.out _ HX.out.below;have p2:=HK1.out _ HX.out.below;have HS:=hid (And.intro p0.1 (And.intro p0.2.1 (And.intro p0.2.2.2.2 (And.intro p1.1 (And.intro p1.2.1 (And.intro p1.2.2.1 (And.intro p1.2.2.2.1 (And.intro p1.2.2.2.2.1 (And.intro p2.1 (And.intro p2.2.1 (And.intro p2.2.2.1 (And.intro p2.2.2.2.1 p2.2.2.2.2.1))))))))))));clear p0 p1 p2;go_region_held3 (fun W=>W.cell? ⟨w.heap.size,0,none⟩=some (.int .i64 op)/\W.cell? ⟨w.heap.size,1,none⟩=some (.string ⟨nm.toArray⟩)/\W.cell? ⟨w.heap.size,4,none⟩=some (.slice (some ⟨b,o,none⟩) l.length c)/\W.cell? ⟨b,o,none⟩=some (.int .i64 a.op)/\W.cell? ⟨b,o+1,none⟩=some (.string ⟨a.nm.toArray⟩)/\W.cell? ⟨b,o+2,none⟩=some (.int .i64 a.n)/\W.cell? ⟨b,o+3,none⟩=some (.string ⟨a.t.toArray⟩)/\W.cell? ⟨b,o+4,none⟩=some (.slice A0 a.l.length c0)/\W.cell? ⟨b,o+5,none⟩=some (.int .i64 a2.op)/\W.cell? ⟨b,o+5+1,none⟩=some (.string ⟨a2.nm.toArray⟩)/\W.cell? ⟨b,o+5+2,none⟩=some (.int .i64 a2.n)/\W.cell? ⟨b,o+5+3,none⟩=some (.string ⟨a2.t.toArray⟩)/\W.cell? ⟨b,o+5+4,none⟩=some (.slice A1 a2.l.length c1))
   (first | exact HS.out | go_keep)
   (first
    | (go_at_call 75;(with_reducible refine(CS.out _).mono ?_);rintro e w4 ⟨rfl,rfl⟩)
    | (go_at_call 80;(with_reducible refine(CA2.out _ HX.out.below).mono ?_);rintro e w4 ⟨rfl,hb4⟩;replace HX:=hid (HX.out.step hb4);have p0:=bx_five9 HX.out;have p1:=HK0.out _ HX.out.below;have p2:=HK1.out _ HX.out.below;have HS:=hid (And.intro p0.1 (And.intro p0.2.1 (And.intro p0.2.2.2.2 (And.intro p1.1 (And.intro p1.2.1 (And.intro p1.2.2.1 (And.intro p1.2.2.2.1 (And.intro p1.2.2.2.2.1 (And.intro p2.1 (And.intro p2.2.1 (And.intro p2.2.2.1 (And.intro p2.2.2.2.1 p2.2.2.2.2.1))))))))))));clear p0 p1 p2;clear hb4)
    | (go_at_call 80;(with_reducible refine(CB2.out _ HX.out.below).mono ?_);rintro e w4 ⟨rfl,hb4⟩;replace HX:=hid (HX.out.step hb4);have p0:=bx_five9 HX.out;have p1:=HK0.out _ HX.out.below;have p2:=HK1.out _ HX.out.below;have HS:=hid (And.intro p0.1 (And.intro p0.2.1 (And.intro p0.2.2.2.2 (And.intro p1.1 (And.intro p1.2.1 (And.intro p1.2.2.1 (And.intro p1.2.2.2.1 (And.intro p1.2.2.2.2.1 (And.intro p2.1 (And.intro p2.2.1 (And.intro p2.2.2.1 (And.intro p2.2.2.2.1 p2.2.2.2.2.1))))))))))));clear p0 p1 p2;clear hb4))
  go_wp2_with fail
  go_ret;exact⟨congrArg (fun z=>Ending.returned (Value.string z)) (by simp only [cat_mk,List.append_assoc,List.cons_append,List.nil_append]),HX.out.below⟩
 ·
  have hlf:lf=lv:=by rw [HLF.out,if_neg h4]
  subst hlf;have h4:((lf:Int)==4)=false:=by simp;omega
  clear HLF;have hwr:IntKind.i64.wrap ((lf:Int)+1)=(lf:Int)+1:=IntWalk.i64_in _ (by omega)
  go_wp2_with fail
  replace HX:=hid (HX.out.step ((Below.refl _ _).drew));have p0:=bx_five9 HX.out;have p1:=HK0.out _ HX.out.below;have p2:=HK1.out _ HX.out.below;have HS:=hid (And.intro p0.1 (And.intro p0.2.1 (And.intro p0.2.2.2.2 (And.intro p1.1 (And.intro p1.2.1 (And.intro p1.2.2.1 (And.intro p1.2.2.2.1 (And.intro p1.2.2.2.2.1 (And.intro p2.1 (And.intro p2.2.1 (And.intro p2.2.2.1 (And.intro p2.2.2.2.1 p2.2.2.2.2.1))))))))))));clear p0 p1 p2;go_region_held3 (fun W=>W.cell? ⟨w.heap.size,0,none⟩=some (.int .i64 op)/\W.cell? ⟨w.heap.size,1,none⟩=some (.string ⟨nm.toArray⟩)/\W.cell? ⟨w.heap.size,4,none⟩=some (.slice (some ⟨b,o,none⟩) l.length c)/\W.cell? ⟨b,o,none⟩=some (.int .i64 a.op)/\W.cell? ⟨b,o+1,none⟩=some (.string ⟨a.nm.toArray⟩)/\W.cell? ⟨b,o+2,none⟩=some (.int .i64 a.n)/\W.cell? ⟨b,o+3,none⟩=some (.string ⟨a.t.toArray⟩)/\W.cell? ⟨b,o+4,none⟩=some (.slice A0 a.l.length c0)/\W.cell? ⟨b,o+5,none⟩=some (.int .i64 a2.op)/\W.cell? ⟨b,o+5+1,none⟩=some (.string ⟨a2.nm.toArray⟩)/\W.cell? ⟨b,o+5+2,none⟩=some (.int .i64 a2.n)/\W.cell? ⟨b,o+5+3,none⟩=some (.string ⟨a2.t.toArray⟩)/\W.cell? ⟨b,o+5+4,none⟩=some (.slice A1 a2.l.length c1))
   (first | exact HS.out | go_keep)
   (first
    | (go_at_call 124;(with_reducible refine(CL.out _).mono ?_);rintro e w4 ⟨rfl,rfl⟩))
  go_wp2_with fail
  have sm2:¬ 9223372036854775807 < x1.length+1:=by omega
  have smb2:¬ 9223372036854775806 < x1.length:=by omega
  have sm3:¬ 9223372036854775807 < x1.length+1+sg.length:=by omega
  have sm4:¬ 9223372036854775807 < x1.length+1+sg.length+1:=by omega
  have smb4:¬ 9223372036854775806 < x1.length+1+sg.length:=by omega
  have sm5:¬ 9223372036854775807 < x1.length+1+sg.length+1+x2.length:=by omega
  have CA2:=hid (fun W (hW:Below w.heap.size w W)=>CA.out W (lf:Int) (by omega) hW)
  have CB2:=hid (fun W (hW:Below w.heap.size w W)=>CB.out W ((lf:Int)+1) (by omega) hW)
  replace HX:=hid (HX.out.step ((Below.refl _ _).drew));have p0:=bx_five9 HX.out;have p1:=HK0.out _ HX.out.below;have p2:=HK1.out _ HX.out.below;have HS:=hid (And.intro p0.1 (And.intro p0.2.1 (And.intro p0.2.2.2.2 (And.intro p1.1 (And.intro p1.2.1 (And.intro p1.2.2.1 (And.intro p1.2.2.2.1 (And.intro p1.2.2.2.2.1 (And.intro p2.1 (And.intro p2.2.1 (And.intro p2.2.2.1 (And.intro p2.2.2.2.1 p2.2.2.2.2.1))))))))))));clear p0 p1 p2;go_region_held3 (fun W=>W.cell? ⟨w.heap.size,0,none⟩=some (.int .i64 op)/\W.cell? ⟨w.heap.size,1,none⟩=some (.string ⟨nm.toArray⟩)/\W.cell? ⟨w.heap.size,4,none⟩=some (.slice (some ⟨b,o,none⟩) l.length c)/\W.cell? ⟨b,o,none⟩=some (.int .i64 a.op)/\W.cell? ⟨b,o+1,none⟩=some (.string ⟨a.nm.toArray⟩)/\W.cell? ⟨b,o+2,none⟩=some (.int .i64 a.n)/\W.cell? ⟨b,o+3,none⟩=some (.string ⟨a.t.toArray⟩)/\W.cell? ⟨b,o+4,none⟩=some (.slice A0 a.l.length c0)/\W.cell? ⟨b,o+5,none⟩=some (.int .i64 a2.op)/\W.cell? ⟨b,o+5+1,none⟩=some (.string ⟨a2.nm.toArray⟩)/\W.cell? ⟨b,o+5+2,none⟩=some (.int .i64 a2.n)/\W.cell? ⟨b,o+5+3,none⟩=some (.string ⟨a2.t.toArray⟩)/\W.cell? ⟨b,o+5+4,none⟩=some (.slice A1 a2.l.length c1))
   (first | exact HS.out | go_keep)
   (first
    | (go_at_call 75;(with_reducible refine(CS.out _).mono ?_);rintro e w4 ⟨rfl,rfl⟩)
    | (go_at_call 80;(with_reducible refine(CA2.out _ HX.out.below).mono ?_);rintro e w4 ⟨rfl,hb4⟩;replace HX:=hid (HX.out.step hb4);have p0:=bx_five9 HX.out;have p1:=HK0.out _ HX.out.below;have p2:=HK1.out _ HX.out.below;have HS:=hid (And.intro p0.1 (And.intro p0.2.1 (And.intro p0.2.2.2.2 (And.intro p1.1 (And.intro p1.2.1 (And.intro p1.2.2.1 (And.intro p1.2.2.2.1 (And.intro p1.2.2.2.2.1 (And.intro p2.1 (And.intro p2.2.1 (And.intro p2.2.2.1 (And.intro p2.2.2.2.1 p2.2.2.2.2.1))))))))))));clear p0 p1 p2;clear hb4)
    | (go_at_call 80;(with_reducible refine(CB2.out _ HX.out.below).mono ?_);rintro e w4 ⟨rfl,hb4⟩;replace HX:=hid (HX.out.step hb4);have p0:=bx_five9 HX.out;have p1:=HK0.out _ HX.out.below;have p2:=HK1.out _ HX.out.below;have HS:=hid (And.intro p0.1 (And.intro p0.2.1 (And.intro p0.2.2.2.2 (And.intro p1.1 (And.intro p1.2.1 (And.intro p1.2.2.1 (And.intro p1.2.2.2.1 (And.intro p1.2.2.2.2.1 (And.intro p2.1 (And.intro p2.2.1 (And.intro p2.2.2.1 (And.intro p2.2.2.2.1 p2.2.2.2.2.1))))))))))));clear p0 p1 p2;clear hb4))
  go_wp2_with fail
  go_ret;exact⟨congrArg (fun z=>Ending.returned (Value.string z)) (by simp only [cat_mk,List.append_assoc,List.cons_append,List.nil_append]),HX.out.below⟩
end Go.Proofs.YtgeppafcemeidaaGreatDoor
namespace Go.Proofs.YtgeppafcemeidaaGreatDoor
open Go.RowKit
open Sy (N)
theorem rquoteL (t:List UInt8) (w:World) (h:t.length<=4096) :
  Calls Tryz.prog 78 #[.string ⟨t.toArray⟩] w (RP9 w (Tk.quote t)):=by
 have:=rquote_any ⟨t.toArray⟩ w (by rw [show (⟨t.toArray⟩:ByteArray).size=t.length by simp [ByteArray.size]];omega)
 refine this.mono ?_;rintro e w' ⟨rfl,q,rfl⟩;exact⟨rfl,below_draws q⟩
def PairOk (m:Nat) (v:N):Prop:=v.op=9/\v.t.length<=4096/\∃ a,v.l[0]? = some a/\Sy.N.size a<=m/\Sy.rX a=true
theorem PairOk.x {m:Nat} {v a:N} (h:PairOk m v) (h0:v.l[0]? = some a):Sy.X v=(Tk.quote v.t++[58,32])++Sy.X a:=by
 obtain⟨op,nm,n,t,l⟩:=v;obtain⟨h1,_⟩:=h;simp only [Sy.N.op] at h1;subst h1;cases l with
 | nil=>cases h0
 | cons b r =>
  injection h0 with h0;subst h0;rw [Sy.X_mk,Sy.Xs];simp only [Sy.N.t,List.append_assoc];rfl
theorem rpairs_any {m:Nat} (HE:RX9 m) (l:List N) (A:Option Addr) (c:Nat) (w:World) (S:Nat->Prop) (hk:KR w S (.slice A l.length c) l) (hs:∀ v∈l,PairOk m v) (hn:l.length<=4398046511104) (hl:(Sy.glue (l.map Sy.X)).length<=1099511627776) :
  Calls Tryz.prog 79 #[.slice A l.length c] w (RP9 w (Sy.glue (l.map Sy.X))):=by
 have HE:=hid HE;have HK:=hid hk;have HS:=hid hs;have HL:=hid hl;clear hk hs hl;go_enter Tryz.func79,Tryz.ntmps79;go_wp2_with fail
 go_loopw [3,4] (fun v3 v4 wr=>LstRel w l v3 v4 wr) (fun _ v4 _=>l.length - (intOf v4).toNat)
 case atStart=>exact⟨0,Nat.zero_le _,rfl,rfl,Below.refl _ _⟩
 case round =>
  obtain⟨k,hk,rfl,rfl,hb⟩:=hrel;have HB:=hid hb;clear hb;by_cases hlt:k < l.length
  ·
   have h0:l[k]? = some l[k]:=List.getElem?_eq_getElem hlt;obtain⟨b,o,rfl⟩:=kid_addr HK.out h0;obtain⟨A0,c0,HK0⟩:=kid_all (e:=o+k * 5) HK.out h0 rfl;have hok:=HS.out l[k] (List.getElem_mem hlt);obtain⟨_,ht,a,ha0,haz,har⟩:=id hok;have hx:=hok.x ha0;obtain⟨A0',c0',he0,hok0,hkr0⟩:=((HK0.out w (Below.refl _ _)).2.2.2.2.2).open_;injection he0 with he0;have hA:(Value.slice A0 l[k].l.length c0)=.slice A0' l[k].l.length c0':=by
    have:=congrArg Array.toList he0;simpa using this
   rw [<- hA] at hkr0;clear he0 hA hok0;obtain⟨b2,o2,rfl⟩:=kid_addr hkr0 ha0;obtain⟨A1,c1,HK1⟩:=kid_all (e:=o2) hkr0 ha0 (by omega)
   have hlen2:0 < l[k].l.length:=(List.getElem?_eq_some_iff.1 ha0).1;have hlen2i:(0:Int) < (l[k].l.length:Int):=by omega
   have HZ:=hid (And.intro haz har);have HT:Hid (Sy.glue ((l.map Sy.X).take (k+1))=Sy.glue ((l.map Sy.X).take k)++((if k=0 then [] else [44,32])++((Tk.quote l[k].t++[58,32])++Sy.X a))):=by
    show _=_;rw [Sy.glue_take (by simpa using hlt),List.getElem_map,hx]
   have hg1:=glue_le9 (l.map Sy.X) (k+1);rw [HT.out] at hg1;have hbn:(Sy.glue ((l.map Sy.X).take k)).length<=1099511627776/\(Sy.X a).length<=1099511627776:=by
    have:=HL.out;simp only [List.length_append] at hg1;omega
   obtain⟨hb1,hb2⟩:=hbn;have hq:=Sy.quote_len l[k].t;have CQ:=hid (fun W=>rquoteL l[k].t W ht)
   have CE:=hid (fun W (hW:Below w.heap.size w W)=>HE.out a _ W S haz har (HK1.out W hW).2.2.2.2.2 hb2)
   have hkl:(k:Int) < (l.length:Int):=by omega
   have hk0:(0:Int)<=(k:Int):=by omega
   clear haz har h0 hg1 hok ha0 hx hkr0;generalize Sy.glue ((l.map Sy.X).take k)=acc at *;generalize l[k]=kd at *;generalize Sy.X a=xk at *;generalize hqq:Tk.quote kd.t=qt at *;clear hqq;by_cases h0:k=0
   ·
    rw [if_pos h0,List.nil_append] at HT;have h0':(k:Int)<=0:=by omega
    have sm2:¬ 9223372036854775807 < acc.length+qt.length:=by omega
    have sm3:¬ 9223372036854775807 < acc.length+qt.length+2:=by omega
    have sm4:¬ 9223372036854775807 < acc.length+qt.length+2+xk.length:=by omega
    clear h0;replace HB:=hid (HB.out.trans (Below.drew (Below.refl wr.heap.size wr) |>.mono HB.out.size))
    have p0:=HK0.out _ HB.out;have p1:=HK1.out _ HB.out;have HS2:=hid (And.intro p0.2.2.2.1 (And.intro p0.2.2.2.2.1 (And.intro p1.1 (And.intro p1.2.1 (And.intro p1.2.2.1 (And.intro p1.2.2.2.1 p1.2.2.2.2.1))))));clear p0 p1;go_wp2_with fail;go_region_held3 (fun W=>W.cell? ⟨b,o+k * 5+3,none⟩=some (.string ⟨kd.t.toArray⟩)/\W.cell? ⟨b,o+k * 5+4,none⟩=some (.slice (some ⟨b2,o2,none⟩) kd.l.length c0)/\W.cell? ⟨b2,o2,none⟩=some (.int .i64 a.op)/\W.cell? ⟨b2,o2+1,none⟩=some (.string ⟨a.nm.toArray⟩)/\W.cell? ⟨b2,o2+2,none⟩=some (.int .i64 a.n)/\W.cell? ⟨b2,o2+3,none⟩=some (.string ⟨a.t.toArray⟩)/\W.cell? ⟨b2,o2+4,none⟩=some (.slice A1 a.l.length c1))
     (first | exact HS2.out | go_keep)
     (first
      | (go_at_call 78;(with_reducible refine(CQ.out _).mono ?_);rintro e w4 ⟨rfl,hb4⟩;replace HB:=hid (HB.out.trans (hb4.mono HB.out.size));have p0:=HK0.out _ HB.out;have p1:=HK1.out _ HB.out;have HS2:=hid (And.intro p0.2.2.2.1 (And.intro p0.2.2.2.2.1 (And.intro p1.1 (And.intro p1.2.1 (And.intro p1.2.2.1 (And.intro p1.2.2.2.1 p1.2.2.2.2.1))))));clear p0 p1;clear hb4)
      | (go_at_call 43;(with_reducible refine(CE.out _ HB.out).mono ?_);rintro e w4 ⟨rfl,hb4⟩;replace HB:=hid (HB.out.trans (hb4.mono HB.out.size));have p0:=HK0.out _ HB.out;have p1:=HK1.out _ HB.out;have HS2:=hid (And.intro p0.2.2.2.1 (And.intro p0.2.2.2.2.1 (And.intro p1.1 (And.intro p1.2.1 (And.intro p1.2.2.1 (And.intro p1.2.2.2.1 p1.2.2.2.2.1))))));clear p0 p1;clear hb4))
    go_wp2_with fail
    refine⟨⟨k+1,by omega,by go_num,by rw [HT.out];exact congrArg Value.string (by simp only [cat_mk,List.append_assoc]),HB.out⟩,?_⟩
    simp [intOf];omega
   ·
    rw [if_neg h0] at HT;have h0':0 < (k:Int):=by omega
    have sm2:¬ 9223372036854775807 < acc.length+2:=by omega
    have sm3:¬ 9223372036854775807 < acc.length+2+qt.length:=by omega
    have sm4:¬ 9223372036854775807 < acc.length+2+qt.length+2:=by omega
    have sm5:¬ 9223372036854775807 < acc.length+2+qt.length+2+xk.length:=by omega
    clear h0;replace HB:=hid (HB.out.trans (Below.drew (Below.refl wr.heap.size wr) |>.mono HB.out.size))
    have p0:=HK0.out _ HB.out;have p1:=HK1.out _ HB.out;have HS2:=hid (And.intro p0.2.2.2.1 (And.intro p0.2.2.2.2.1 (And.intro p1.1 (And.intro p1.2.1 (And.intro p1.2.2.1 (And.intro p1.2.2.2.1 p1.2.2.2.2.1))))));clear p0 p1;go_wp2_with fail;go_region_held3 (fun W=>W.cell? ⟨b,o+k * 5+3,none⟩=some (.string ⟨kd.t.toArray⟩)/\W.cell? ⟨b,o+k * 5+4,none⟩=some (.slice (some ⟨b2,o2,none⟩) kd.l.length c0)/\W.cell? ⟨b2,o2,none⟩=some (.int .i64 a.op)/\W.cell? ⟨b2,o2+1,none⟩=some (.string ⟨a.nm.toArray⟩)/\W.cell? ⟨b2,o2+2,none⟩=some (.int .i64 a.n)/\W.cell? ⟨b2,o2+3,none⟩=some (.string ⟨a.t.toArray⟩)/\W.cell? ⟨b2,o2+4,none⟩=some (.slice A1 a.l.length c1))
     (first | exact HS2.out | go_keep)
     (first
      | (go_at_call 78;(with_reducible refine(CQ.out _).mono ?_);rintro e w4 ⟨rfl,hb4⟩;replace HB:=hid (HB.out.trans (hb4.mono HB.out.size));have p0:=HK0.out _ HB.out;have p1:=HK1.out _ HB.out;have HS2:=hid (And.intro p0.2.2.2.1 (And.intro p0.2.2.2.2.1 (And.intro p1.1 (And.intro p1.2.1 (And.intro p1.2.2.1 (And.intro p1.2.2.2.1 p1.2.2.2.2.1))))));clear p0 p1;clear hb4)
      | (go_at_call 43;(with_reducible refine(CE.out _ HB.out).mono ?_);rintro e w4 ⟨rfl,hb4⟩;replace HB:=hid (HB.out.trans (hb4.mono HB.out.size));have p0:=HK0.out _ HB.out;have p1:=HK1.out _ HB.out;have HS2:=hid (And.intro p0.2.2.2.1 (And.intro p0.2.2.2.2.1 (And.intro p1.1 (And.intro p1.2.1 (And.intro p1.2.2.1 (And.intro p1.2.2.2.1 p1.2.2.2.2.1))))));clear p0 p1;clear hb4))
    go_wp2_with fail
    refine⟨⟨k+1,by omega,by go_num,by rw [HT.out];exact congrArg Value.string (by simp only [cat_mk,List.append_assoc]),HB.out⟩,?_⟩
    simp [intOf];omega
  ·
   have hk2:k=l.length:=by omega
   subst hk2;have HT:Hid ((l.map Sy.X).take l.length=l.map Sy.X):=by show _=_;rw [<- List.length_map (f:=Sy.X),List.take_length]
   go_wp2_with fail
   go_ret;exact⟨by rw [HT.out]<;>rfl,HB.out⟩
end Go.Proofs.YtgeppafcemeidaaGreatDoor
namespace Go.Proofs.YtgeppafcemeidaaGreatDoor
open Go.RowKit
open Sy (N)
namespace Sy
theorem rX_inv {op n:Int} {nm t:List UInt8} {l:List N} (h:rX (.mk op nm n t l)=true) :
  op≠9/\t.length<=4096/\(op=7\/op=10\/op=11->l.all rX=true)/\(op=8->rPs l=true) /\
  (op=12\/op=13\/op=14\/op=29->∃ a,l=[a]/\rX a=true)/\(15<=op/\op<=28->∃ a b,l=[a,b]/\rX a=true/\rX b=true):=by
 have ht:=(aX_mk ((rX_aX _).1 h)).2.2.2.2;rw [rX] at h;have one:l.length=1->rXs l=true->∃ a,l=[a]/\rX a=true:=fun h1 h2=>by
  match l,h1,h2 with
  | [a],_,h2=>rw [rXs,Bool.and_eq_true] at h2;exact⟨a,rfl,h2.1⟩
 refine⟨?_,ht,?_,?_,?_,?_⟩
 ·
  intro e;subst e;revert h;simp
 ·
  intro e;rw [<- rXs_all];rcases e with e | e | e
  ·
   subst e;have h2:(bareN (.mk 7 nm n t l) false false&&rXs l)=true:=h;rw [Bool.and_eq_true] at h2;exact h2.2
  ·
   subst e;have h2:(bareN (.mk 10 nm n t l) true false&&rXs l)=true:=h;rw [Bool.and_eq_true] at h2;exact h2.2
  ·
   subst e;have h2:(bareN (.mk 11 nm n t l) true false&&rXs l)=true:=h;rw [Bool.and_eq_true] at h2;exact h2.2
 ·
  intro e;subst e;have h2:(rPs l&&bareN (.mk 8 nm n t l) false false)=true:=h;rw [Bool.and_eq_true] at h2;exact h2.1
 ·
  intro e;rcases e with e | e | e | e
  ·
   subst e;have h2:(bareN (.mk 12 nm n t l) false false&&l.length==1&&rXs l)=true:=h;simp only [Bool.and_eq_true,beq_iff_eq] at h2;exact one h2.1.2 h2.2
  ·
   subst e;have h2:(bareN (.mk 13 nm n t l) false false&&l.length==1&&rXs l)=true:=h;simp only [Bool.and_eq_true,beq_iff_eq] at h2;exact one h2.1.2 h2.2
  ·
   subst e;have h2:(bareN (.mk 14 nm n t l) false false&&l.length==1&&rXs l)=true:=h;simp only [Bool.and_eq_true,beq_iff_eq] at h2;exact one h2.1.2 h2.2
  ·
   subst e;have h2:(bareN (.mk 29 nm n t l) true false&&l.length==1&&rXs l)=true:=h;simp only [Bool.and_eq_true,beq_iff_eq] at h2;exact one h2.1.2 h2.2
 ·
  intro e;rw [if_neg (by omega),if_neg (by omega),if_neg (by omega),if_neg (by omega),if_neg (by omega),if_neg (by omega),if_neg (by omega),if_neg (by omega),if_neg (by omega)] at h
  simp only [Bool.and_eq_true,beq_iff_eq,decide_eq_true_eq] at h;obtain⟨⟨_,h1⟩,h2⟩:=h
  match l,h1,h2 with
  | [a,b],_,h2 =>
   rw [rXs,Bool.and_eq_true,rXs,Bool.and_eq_true] at h2;exact⟨a,b,rfl,h2.1,h2.2.1⟩
theorem rPs_pair:∀ {l:List N} {m:Nat},rPs l=true->(∀ v∈l,N.size v<=m+1)->∀ v∈l,PairOk m v
 | [],_,_,_,v,hv=>by cases hv
 | .mk op nm n t k::l,m,h,hz,v,hv=>by
  have hx:=(rX_aX (.mk op nm n t k)).2 (rPs_one h).1;rw [rPs] at h;simp only [Bool.and_eq_true,beq_iff_eq] at h;rcases List.mem_cons.1 hv with rfl | hv
  ·
   obtain⟨⟨⟨⟨h1,_⟩,h2⟩,h3⟩,_⟩:=h;have h4:=(aX_mk hx).2.2.2.2
   match k,h2,h3 with
   | [a],_,h3 =>
    rw [rXs,Bool.and_eq_true] at h3;have h5:=hz _ (List.mem_cons_self);have h6:=N.size_mem (l:=[a]) (v:=a) (by simp)
    rw [N.size_mk] at h5;exact⟨h1,h4,a,rfl,by omega,h3.1⟩
  ·
   exact rPs_pair h.2 (fun u hu=>hz u (List.mem_cons_of_mem _ hu)) v hv
end Sy
theorem rexpr_step {m:Nat} (HE:RX9 m) (op n:Int) (nm t:List UInt8) (l:List N) (va:Value) (w:World) (S:Nat->Prop) (hz:Sy.N.size (.mk op nm n t l)<=m+1) (hr:Sy.rX (.mk op nm n t l)=true) (hna:NA w S va (.mk op nm n t l)) (hl:(Sy.X (.mk op nm n t l)).length<=1099511627776) :
  Calls Tryz.prog 43 #[va] w (RP9 w (Sy.X (.mk op nm n t l))):=by
 obtain⟨hop1,hop2,hnd,_,ht⟩:=Sy.aX_mk ((Sy.rX_aX _).1 hr);obtain⟨A,c,rfl,ho,hk⟩:=hna.open_;simp only [Sy.N.op,Sy.N.nm,Sy.N.n,Sy.N.t,Sy.N.l] at ho hk |-
 obtain⟨hn0,hn1⟩ : -9223372036854775808<=n/\n<=9223372036854775807:=⟨ho.2.2.1,ho.2.2.2.1⟩;have hn:l.length<=4398046511104:=by have h1:=ho.2.2.2.2.2.2;omega
 have HZL:Hid (∀ v∈l,Sy.N.size v<=m):=fun v hv=>by
  have h1:=Sy.N.size_mem hv;rw [Sy.N.size_mk] at hz;omega
 obtain⟨i9,_,i7,i8,i12,i15⟩:=Sy.rX_inv hr;have HKR:=hid hk;have HOK:=hid ho;have CD:=hid (fun W=>decimal_any n W hn0 hn1)
 have CQ:=hid (fun W=>rquoteL t W ht)
 have CS:=hid (fun W=>rsign9_any op W hop1 hop2)
 obtain⟨x1,x2,x3,x4,x5,x6⟩:=Sy.X_lo (n:=n) (nm:=nm) (t:=t) (l:=l);obtain⟨x7,x8,x10,x11⟩:=Sy.X_mi (n:=n) (nm:=nm) (t:=t) (l:=l);clear hz hr ht hna ho hn0 hn1 hnd;by_cases z1:op=1
 ·
  subst z1;rw [show Sy.sgn 1=[] from rfl] at CS
  rw [x1];clear x1 x2 x3 x4 x5 x6 x7 x8 x10 x11 hop1 hop2 i7 i8 i9 i12 i15 hk hl;have HX:=hid (Bx.refl (w:=w) (cs:=#[.int .i64 1,.string ⟨nm.toArray⟩,.int .i64 n,.string ⟨t.toArray⟩,.slice A l.length c]));go_enter Tryz.func43,Tryz.ntmps43;go_wp2_with fail;refine(CS.out _).mono ?_;rintro e w4 ⟨rfl,rfl⟩;go_wp2_with fail;go_ret;exact⟨rfl,HX.out.below⟩
 by_cases z2:op=2
 ·
  subst z2;rw [show Sy.sgn 2=[] from rfl] at CS
  rw [x2];clear x1 x2 x3 x4 x5 x6 x7 x8 x10 x11 hop1 hop2 i7 i8 i9 i12 i15 hk z1 hl;have HX:=hid (Bx.refl (w:=w) (cs:=#[.int .i64 2,.string ⟨nm.toArray⟩,.int .i64 n,.string ⟨t.toArray⟩,.slice A l.length c]));go_enter Tryz.func43,Tryz.ntmps43;go_wp2_with fail;refine(CS.out _).mono ?_;rintro e w4 ⟨rfl,rfl⟩;go_wp2_with fail;go_ret;exact⟨rfl,HX.out.below⟩
 by_cases z3:op=3
 ·
  subst z3;rw [show Sy.sgn 3=[] from rfl] at CS
  rw [x3];clear x1 x2 x3 x4 x5 x6 x7 x8 x10 x11 hop1 hop2 i7 i8 i9 i12 i15 hk z1 z2 hl;have HX:=hid (Bx.refl (w:=w) (cs:=#[.int .i64 3,.string ⟨nm.toArray⟩,.int .i64 n,.string ⟨t.toArray⟩,.slice A l.length c]));go_enter Tryz.func43,Tryz.ntmps43;go_wp2_with fail;refine(CS.out _).mono ?_;rintro e w4 ⟨rfl,rfl⟩;go_wp2_with fail;go_ret;exact⟨rfl,HX.out.below⟩
 by_cases z4:op=4
 ·
  subst z4;rw [show Sy.sgn 4=[] from rfl] at CS
  rw [x4] at hl |-
  clear x1 x2 x3 x4 x5 x6 x7 x8 x10 x11 hop1 hop2 i7 i8 i9 i12 i15 hk z1 z2 z3;generalize Lib.itoa n=it at *;have HX:=hid (Bx.refl (w:=w) (cs:=#[.int .i64 4,.string ⟨nm.toArray⟩,.int .i64 n,.string ⟨t.toArray⟩,.slice A l.length c]));go_enter Tryz.func43,Tryz.ntmps43;go_wp2_with fail;refine(CS.out _).mono ?_;rintro e w4 ⟨rfl,rfl⟩;go_wp2_with fail;refine(CD.out _).mono ?_;rintro e w4 ⟨rfl,hb4⟩;replace HX:=hid (HX.out.step hb4);clear hb4;go_wp2_with fail;go_ret;exact⟨rfl,HX.out.below⟩
 by_cases z5:op=5
 ·
  subst z5;rw [show Sy.sgn 5=[] from rfl] at CS
  rw [x5] at hl |-
  clear x1 x2 x3 x4 x5 x6 x7 x8 x10 x11 hop1 hop2 i7 i8 i9 i12 i15 hk z1 z2 z3 z4;generalize Tk.quote t=it at *;have HX:=hid (Bx.refl (w:=w) (cs:=#[.int .i64 5,.string ⟨nm.toArray⟩,.int .i64 n,.string ⟨t.toArray⟩,.slice A l.length c]));go_enter Tryz.func43,Tryz.ntmps43;go_wp2_with fail;refine(CS.out _).mono ?_;rintro e w4 ⟨rfl,rfl⟩;go_wp2_with fail;refine(CQ.out _).mono ?_;rintro e w4 ⟨rfl,hb4⟩;replace HX:=hid (HX.out.step hb4);clear hb4;go_wp2_with fail;go_ret;exact⟨rfl,HX.out.below⟩
 by_cases z6:op=6
 ·
  subst z6;rw [show Sy.sgn 6=[] from rfl] at CS
  rw [x6];clear x1 x2 x3 x4 x5 x6 x7 x8 x10 x11 hop1 hop2 i7 i8 i9 i12 i15 hk z1 z2 z3 z4 z5 hl;have HX:=hid (Bx.refl (w:=w) (cs:=#[.int .i64 6,.string ⟨nm.toArray⟩,.int .i64 n,.string ⟨t.toArray⟩,.slice A l.length c]));go_enter Tryz.func43,Tryz.ntmps43;go_wp2_with fail;refine(CS.out _).mono ?_;rintro e w4 ⟨rfl,rfl⟩;go_wp2_with fail;go_ret;exact⟨rfl,HX.out.below⟩
 by_cases z7:op=7
 ·
  subst z7;rw [show Sy.sgn 7=[] from rfl] at CS
  rw [x7] at hl |-
  have hg:(Sy.glue (l.map Sy.X)).length<=1099511627776:=by simp only [List.length_append] at hl;omega
  have hs:=i7 (by omega)
  have CL:=hid (fun W (hW:Below w.heap.size w W)=>rlist_any HE l A c W S (HKR.out.below hW) (fun v hv=>⟨HZL.out v hv,List.all_eq_true.1 hs v hv⟩) hn hg)
  clear x1 x2 x3 x4 x5 x6 x7 x8 x10 x11 hop1 hop2 i7 i8 i9 i12 i15 hk z1 z2 z3 z4 z5 z6 hl hs;generalize Sy.glue (l.map Sy.X)=gl at *;have HX:=hid (Bx.refl (w:=w) (cs:=#[.int .i64 7,.string ⟨nm.toArray⟩,.int .i64 n,.string ⟨t.toArray⟩,.slice A l.length c]));go_enter Tryz.func43,Tryz.ntmps43;go_wp2_with fail;refine(CS.out _).mono ?_;rintro e w4 ⟨rfl,rfl⟩;go_wp2_with fail;refine(CL.out _ HX.out.below).mono ?_;rintro e w4 ⟨rfl,hb4⟩;replace HX:=hid (HX.out.step hb4);clear hb4;go_wp2_with fail;go_ret;exact⟨congrArg (fun z=>Ending.returned (Value.string z)) (by simp only [cat_mk,List.append_assoc,List.cons_append,List.nil_append]),HX.out.below⟩
 by_cases z8:op=8
 ·
  subst z8;rw [show Sy.sgn 8=[] from rfl] at CS
  rw [x8] at hl |-
  have hg:(Sy.glue (l.map Sy.X)).length<=1099511627776:=by simp only [List.length_append] at hl;omega
  have hs:=Sy.rPs_pair (m:=m) (i8 rfl) (fun v hv=>Nat.le_succ_of_le (HZL.out v hv))
  have CL:=hid (fun W (hW:Below w.heap.size w W)=>rpairs_any HE l A c W S (HKR.out.below hW) hs hn hg)
  clear x1 x2 x3 x4 x5 x6 x7 x8 x10 x11 hop1 hop2 i7 i8 i9 i12 i15 hk z1 z2 z3 z4 z5 z6 z7 hl hs;generalize Sy.glue (l.map Sy.X)=gl at *;have HX:=hid (Bx.refl (w:=w) (cs:=#[.int .i64 8,.string ⟨nm.toArray⟩,.int .i64 n,.string ⟨t.toArray⟩,.slice A l.length c]));go_enter Tryz.func43,Tryz.ntmps43;go_wp2_with fail;refine(CS.out _).mono ?_;rintro e w4 ⟨rfl,rfl⟩;go_wp2_with fail;refine(CL.out _ HX.out.below).mono ?_;rintro e w4 ⟨rfl,hb4⟩;replace HX:=hid (HX.out.step hb4);clear hb4;go_wp2_with fail;go_ret;exact⟨congrArg (fun z=>Ending.returned (Value.string z)) (by simp only [cat_mk,List.append_assoc,List.cons_append,List.nil_append]),HX.out.below⟩
 by_cases z10:op=10
 ·
  subst z10;rw [show Sy.sgn 10=[] from rfl] at CS
  rw [x10] at hl |-
  have hg:(Sy.glue (l.map Sy.X)).length<=1099511627776/\nm.length<=1099511627776:=by simp only [List.length_append,List.length_cons] at hl;omega
  obtain⟨hg,hnm⟩:=hg;have hs:=i7 (by omega)
  have CL:=hid (fun W (hW:Below w.heap.size w W)=>rlist_any HE l A c W S (HKR.out.below hW) (fun v hv=>⟨HZL.out v hv,List.all_eq_true.1 hs v hv⟩) hn hg)
  clear x1 x2 x3 x4 x5 x6 x7 x8 x10 x11 hop1 hop2 i7 i8 i9 i12 i15 hk z1 z2 z3 z4 z5 z6 z7 z8 hl hs;generalize Sy.glue (l.map Sy.X)=gl at *;have sm2:¬ 9223372036854775807 < nm.length+1:=by omega
  have smb2:¬ 9223372036854775806 < nm.length:=by omega
  have sm3:¬ 9223372036854775807 < nm.length+1+gl.length:=by omega
  have sm4:¬ 9223372036854775807 < nm.length+1+gl.length+1:=by omega
  have smb4:¬ 9223372036854775806 < nm.length+1+gl.length:=by omega
  have HX:=hid (Bx.refl (w:=w) (cs:=#[.int .i64 10,.string ⟨nm.toArray⟩,.int .i64 n,.string ⟨t.toArray⟩,.slice A l.length c]));go_enter Tryz.func43,Tryz.ntmps43;go_wp2_with fail;refine(CS.out _).mono ?_;rintro e w4 ⟨rfl,rfl⟩;go_wp2_with fail;replace HX:=hid (HX.out.step ((Below.refl _ _).drew));have p0:=bx_five9 HX.out;have HS:=hid (And.intro p0.2.1 p0.2.2.2.2);clear p0;go_region_held3 (fun W=>W.cell? ⟨w.heap.size,1,none⟩=some (.string ⟨nm.toArray⟩)/\W.cell? ⟨w.heap.size,4,none⟩=some (.slice A l.length c))
   (first | exact HS.out | go_keep)
   (first
    | (go_at_call 67;(with_reducible refine(CL.out _ HX.out.below).mono ?_);rintro e w4 ⟨rfl,hb4⟩;replace HX:=hid (HX.out.step hb4);have p0:=bx_five9 HX.out;have HS:=hid (And.intro p0.2.1 p0.2.2.2.2);clear p0;clear hb4))
  go_wp2_with fail
  go_ret;exact⟨congrArg (fun z=>Ending.returned (Value.string z)) (by simp only [cat_mk,List.append_assoc,List.cons_append,List.nil_append]),HX.out.below⟩
 by_cases z11:op=11
 ·
  subst z11;rw [show Sy.sgn 11=[] from rfl] at CS
  rw [x11] at hl |-
  have hg:(Sy.glue (l.map Sy.X)).length<=1099511627776/\nm.length<=1099511627776:=by simp only [List.length_append,List.length_cons] at hl;omega
  obtain⟨hg,hnm⟩:=hg;have hs:=i7 (by omega)
  have CL:=hid (fun W (hW:Below w.heap.size w W)=>rlist_any HE l A c W S (HKR.out.below hW) (fun v hv=>⟨HZL.out v hv,List.all_eq_true.1 hs v hv⟩) hn hg)
  clear x1 x2 x3 x4 x5 x6 x7 x8 x10 x11 hop1 hop2 i7 i8 i9 i12 i15 hk z1 z2 z3 z4 z5 z6 z7 z8 z10 hl hs;generalize Sy.glue (l.map Sy.X)=gl at *;have sm2:¬ 9223372036854775807 < 3+nm.length:=by omega
  have sm3:¬ 9223372036854775807 < 3+nm.length+1:=by omega
  have smb3:¬ 9223372036854775806 < 3+nm.length:=by omega
  have sm4:¬ 9223372036854775807 < 3+nm.length+1+gl.length:=by omega
  have sm5:¬ 9223372036854775807 < 3+nm.length+1+gl.length+1:=by omega
  have smb5:¬ 9223372036854775806 < 3+nm.length+1+gl.length:=by omega
  have HX:=hid (Bx.refl (w:=w) (cs:=#[.int .i64 11,.string ⟨nm.toArray⟩,.int .i64 n,.string ⟨t.toArray⟩,.slice A l.length c]));go_enter Tryz.func43,Tryz.ntmps43;go_wp2_with fail;refine(CS.out _).mono ?_;rintro e w4 ⟨rfl,rfl⟩;go_wp2_with fail;replace HX:=hid (HX.out.step ((Below.refl _ _).drew));have p0:=bx_five9 HX.out;have HS:=hid (And.intro p0.2.1 p0.2.2.2.2);clear p0;go_region_held3 (fun W=>W.cell? ⟨w.heap.size,1,none⟩=some (.string ⟨nm.toArray⟩)/\W.cell? ⟨w.heap.size,4,none⟩=some (.slice A l.length c))
   (first | exact HS.out | go_keep)
   (first
    | (go_at_call 67;(with_reducible refine(CL.out _ HX.out.below).mono ?_);rintro e w4 ⟨rfl,hb4⟩;replace HX:=hid (HX.out.step hb4);have p0:=bx_five9 HX.out;have HS:=hid (And.intro p0.2.1 p0.2.2.2.2);clear p0;clear hb4))
  go_wp2_with fail
  go_ret;exact⟨congrArg (fun z=>Ending.returned (Value.string z)) (by simp only [cat_mk,List.append_assoc,List.cons_append,List.nil_append]),HX.out.below⟩
 by_cases z12:op=12
 ·
  subst z12;rw [show Sy.sgn 12=[] from rfl] at CS
  obtain⟨a,rfl,hra⟩:=i12 (by omega)
  have h0:[a][0]? = some a:=rfl;have haz:=HZL.out a (by simp)
  obtain⟨l,hl1⟩:∃ l:List N,l=[a]:=⟨_,rfl⟩;rw [<- hl1] at hk h0 hl |-
  have hln:l.length=1:=by rw [hl1];rfl
  have hlen0:0 < l.length:=by omega
  have hlen0i:(0:Int) < (l.length:Int):=by omega
  have HLN:=hid hln;clear hl1 hln x1 x2 x3 x4 x5 x6 x7 x8 x10 x11 i7 i8 i9 i12 i15 HKR HOK HZL hn;obtain⟨e12,e13,e14,e28,e29⟩:=Sy.X_un (op:=12) (n:=n) (nm:=nm) (t:=t) h0;rw [e12,show Sy.lev 12=7 from rfl] at hl |-
  clear e12 e13 e14 e28 e29;have hg:(Sy.par 7 a.op (Sy.X a)).length<=1099511627776:=by simp only [List.length_append] at hl;omega
  obtain⟨b,o,rfl⟩:=kid_addr hk h0;obtain⟨A0,c0,HK0⟩:=kid_all (e:=o) hk h0 (by omega)
  have CW:=hid (fun W (hW:Below w.heap.size w W)=>rwithin9_any HE 7 (li:=7) rfl a _ W S haz hra (HK0.out W hW).2.2.2.2.2 hg)
  generalize Sy.par 7 a.op (Sy.X a)=gl at *;clear hk h0 haz hra hl hop1 hop2 z1 z2 z3 z4 z5 z6 z7 z8 z10 z11;have HX:=hid (Bx.refl (w:=w) (cs:=#[.int .i64 12,.string ⟨nm.toArray⟩,.int .i64 n,.string ⟨t.toArray⟩,.slice (some ⟨b,o,none⟩) l.length c]));go_enter Tryz.func43,Tryz.ntmps43;go_wp2_with fail;refine(CS.out _).mono ?_;rintro e w4 ⟨rfl,rfl⟩;obtain⟨q0,q1,q2,q3,q4⟩:=bx_five9 HX.out;obtain⟨k00,k01,k02,k03,k04,_⟩:=HK0.out _ HX.out.below;go_wp2_with fail;refine(CW.out _ HX.out.below).mono ?_;rintro e w4 ⟨rfl,hb4⟩;replace HX:=hid (HX.out.step hb4);clear hb4;clear q0 q1 q2 q3 q4 k00 k01 k02 k03 k04;go_wp2_with fail;go_ret;exact⟨congrArg (fun z=>Ending.returned (Value.string z)) (by simp only [cat_mk,List.append_assoc,List.cons_append,List.nil_append]),HX.out.below⟩
 by_cases z13:op=13
 ·
  subst z13;rw [show Sy.sgn 13=[] from rfl] at CS
  obtain⟨a,rfl,hra⟩:=i12 (by omega)
  have h0:[a][0]? = some a:=rfl;have haz:=HZL.out a (by simp)
  obtain⟨l,hl1⟩:∃ l:List N,l=[a]:=⟨_,rfl⟩;rw [<- hl1] at hk h0 hl |-
  have hln:l.length=1:=by rw [hl1];rfl
  have hlen0:0 < l.length:=by omega
  have hlen0i:(0:Int) < (l.length:Int):=by omega
  have HLN:=hid hln;clear hl1 hln x1 x2 x3 x4 x5 x6 x7 x8 x10 x11 i7 i8 i9 i12 i15 HKR HOK HZL hn;obtain⟨e12,e13,e14,e28,e29⟩:=Sy.X_un (op:=13) (n:=n) (nm:=nm) (t:=t) h0;rw [e13,show Sy.lev 13=3 from rfl] at hl |-
  clear e12 e13 e14 e28 e29;have hg:(Sy.par 3 a.op (Sy.X a)).length<=1099511627776:=by simp only [List.length_append] at hl;omega
  obtain⟨b,o,rfl⟩:=kid_addr hk h0;obtain⟨A0,c0,HK0⟩:=kid_all (e:=o) hk h0 (by omega)
  have CW:=hid (fun W (hW:Below w.heap.size w W)=>rwithin9_any HE 3 (li:=3) rfl a _ W S haz hra (HK0.out W hW).2.2.2.2.2 hg)
  generalize Sy.par 3 a.op (Sy.X a)=gl at *;clear hk h0 haz hra hl hop1 hop2 z1 z2 z3 z4 z5 z6 z7 z8 z10 z11 z12;have HX:=hid (Bx.refl (w:=w) (cs:=#[.int .i64 13,.string ⟨nm.toArray⟩,.int .i64 n,.string ⟨t.toArray⟩,.slice (some ⟨b,o,none⟩) l.length c]));go_enter Tryz.func43,Tryz.ntmps43;go_wp2_with fail;refine(CS.out _).mono ?_;rintro e w4 ⟨rfl,rfl⟩;obtain⟨q0,q1,q2,q3,q4⟩:=bx_five9 HX.out;obtain⟨k00,k01,k02,k03,k04,_⟩:=HK0.out _ HX.out.below;go_wp2_with fail;refine(CW.out _ HX.out.below).mono ?_;rintro e w4 ⟨rfl,hb4⟩;replace HX:=hid (HX.out.step hb4);clear hb4;clear q0 q1 q2 q3 q4 k00 k01 k02 k03 k04;go_wp2_with fail;go_ret;exact⟨congrArg (fun z=>Ending.returned (Value.string z)) (by simp only [cat_mk,List.append_assoc,List.cons_append,List.nil_append]),HX.out.below⟩
 by_cases z14:op=14
 ·
  subst z14;rw [show Sy.sgn 14=[] from rfl] at CS
  obtain⟨a,rfl,hra⟩:=i12 (by omega)
  have h0:[a][0]? = some a:=rfl;have haz:=HZL.out a (by simp)
  obtain⟨l,hl1⟩:∃ l:List N,l=[a]:=⟨_,rfl⟩;rw [<- hl1] at hk h0 hl |-
  have hln:l.length=1:=by rw [hl1];rfl
  have hlen0:0 < l.length:=by omega
  have hlen0i:(0:Int) < (l.length:Int):=by omega
  have HLN:=hid hln;clear hl1 hln x1 x2 x3 x4 x5 x6 x7 x8 x10 x11 i7 i8 i9 i12 i15 HKR HOK HZL hn;obtain⟨e12,e13,e14,e28,e29⟩:=Sy.X_un (op:=14) (n:=n) (nm:=nm) (t:=t) h0;rw [e14,show Sy.lev 14=7 from rfl] at hl |-
  clear e12 e13 e14 e28 e29;have hg:(Sy.par 7 a.op (Sy.X a)).length<=1099511627776:=by simp only [List.length_append] at hl;omega
  obtain⟨b,o,rfl⟩:=kid_addr hk h0;obtain⟨A0,c0,HK0⟩:=kid_all (e:=o) hk h0 (by omega)
  have CW:=hid (fun W (hW:Below w.heap.size w W)=>rwithin9_any HE 7 (li:=7) rfl a _ W S haz hra (HK0.out W hW).2.2.2.2.2 hg)
  generalize Sy.par 7 a.op (Sy.X a)=gl at *;clear hk h0 haz hra hl hop1 hop2 z1 z2 z3 z4 z5 z6 z7 z8 z10 z11 z12 z13;have HX:=hid (Bx.refl (w:=w) (cs:=#[.int .i64 14,.string ⟨nm.toArray⟩,.int .i64 n,.string ⟨t.toArray⟩,.slice (some ⟨b,o,none⟩) l.length c]));go_enter Tryz.func43,Tryz.ntmps43;go_wp2_with fail;refine(CS.out _).mono ?_;rintro e w4 ⟨rfl,rfl⟩;obtain⟨q0,q1,q2,q3,q4⟩:=bx_five9 HX.out;obtain⟨k00,k01,k02,k03,k04,_⟩:=HK0.out _ HX.out.below;go_wp2_with fail;refine(CW.out _ HX.out.below).mono ?_;rintro e w4 ⟨rfl,hb4⟩;replace HX:=hid (HX.out.step hb4);clear hb4;clear q0 q1 q2 q3 q4 k00 k01 k02 k03 k04;go_wp2_with fail;go_ret;exact⟨congrArg (fun z=>Ending.returned (Value.string z)) (by simp only [cat_mk,List.append_assoc,List.cons_append,List.nil_append]),HX.out.below⟩
 by_cases z28:op=28
 ·
  subst z28;rw [show Sy.sgn 28=[] from rfl] at CS
  obtain⟨a,a2,rfl,hra,hra2⟩:=i15 (by omega)
  have h0:[a,a2][0]? = some a:=rfl;have h1:[a,a2][1]? = some a2:=rfl;have haz:=HZL.out a (by simp)
  have haz2:=HZL.out a2 (by simp)
  obtain⟨e12,e13,e14,e28,e29⟩:=Sy.X_un (op:=28) (n:=n) (nm:=nm) (t:=t) h0;have e28:Sy.X (.mk 28 nm n t [a,a2])=Sy.par 8 a.op (Sy.X a)++([91]++(Sy.X a2++[93])):=by rw [e28];simp [Sy.glue]
  rw [e28] at hl |-
  clear e12 e13 e14 e28 e29;obtain⟨l,hl1⟩:∃ l:List N,l=[a,a2]:=⟨_,rfl⟩;rw [<- hl1] at hk h0 h1 |-
  have hln:l.length=2:=by rw [hl1];rfl
  have hlen0:0 < l.length:=by omega
  have hlen0i:(0:Int) < (l.length:Int):=by omega
  have hlen1:1 < l.length:=by omega
  have hlen1i:(1:Int) < (l.length:Int):=by omega
  have HLN:=hid hln;clear hl1 hln x1 x2 x3 x4 x5 x6 x7 x8 x10 x11 i7 i8 i9 i12 i15 HKR HOK HZL hn;have hg:(Sy.par 8 a.op (Sy.X a)).length<=1099511627776/\(Sy.X a2).length<=1099511627776:=by simp only [List.length_append,List.length_cons] at hl;omega
  obtain⟨hg,hg2⟩:=hg;obtain⟨b,o,rfl⟩:=kid_addr hk h0;obtain⟨A0,c0,HK0⟩:=kid_all (e:=o) hk h0 (by omega)
  obtain⟨A1,c1,HK1⟩:=kid_all (e:=o+5) hk h1 (by omega)
  have CW:=hid (fun W (hW:Below w.heap.size w W)=>rwithin9_any HE 8 (li:=8) rfl a _ W S haz hra (HK0.out W hW).2.2.2.2.2 hg)
  have CE:=hid (fun W (hW:Below w.heap.size w W)=>HE a2 _ W S haz2 hra2 (HK1.out W hW).2.2.2.2.2 hg2)
  generalize Sy.par 8 a.op (Sy.X a)=gl at *;generalize Sy.X a2=g2 at *;clear hk h0 h1 haz hra haz2 hra2 hl hop1 hop2 z1 z2 z3 z4 z5 z6 z7 z8 z10 z11 z12 z13 z14;have sm2:¬ 9223372036854775807 < gl.length+1:=by omega
  have smb2:¬ 9223372036854775806 < gl.length:=by omega
  have sm3:¬ 9223372036854775807 < gl.length+1+g2.length:=by omega
  have sm4:¬ 9223372036854775807 < gl.length+1+g2.length+1:=by omega
  have smb4:¬ 9223372036854775806 < gl.length+1+g2.length:=by omega
  have HX:=hid (Bx.refl (w:=w) (cs:=#[.int .i64 28,.string ⟨nm.toArray⟩,.int .i64 n,.string ⟨t.toArray⟩,.slice (some ⟨b,o,none⟩) l.length c]));go_enter Tryz.func43,Tryz.ntmps43;go_wp2_with fail;refine(CS.out _).mono ?_;rintro e w4 ⟨rfl,rfl⟩;go_wp2_with fail;replace HX:=hid (HX.out.step ((Below.refl _ _).drew));have p0:=bx_five9 HX.out;have p1:=HK0.out _ HX.out.below;have p2:=HK1.out _ HX.out.below;have HS:=hid (And.intro p0.2.2.2.2 (And.intro p1.1 (And.intro p1.2.1 (And.intro p1.2.2.1 (And.intro p1.2.2.2.1 (And.intro p1.2.2.2.2.1 (And.intro p2.1 (And.intro p2.2.1 (And.intro p2.2.2.1 (And.intro p2.2.2.2.1 p2.2.2.2.2.1))))))))));clear p0 p1 p2;go_region_held3 (fun W=>W.cell? ⟨w.heap.size,4,none⟩=some (.slice (some ⟨b,o,none⟩) l.length c)/\W.cell? ⟨b,o,none⟩=some (.int .i64 a.op)/\W.cell? ⟨b,o+1,none⟩=some (.string ⟨a.nm.toArray⟩)/\W.cell? ⟨b,o+2,none⟩=some (.int .i64 a.n)/\W.cell? ⟨b,o+3,none⟩=some (.string ⟨a.t.toArray⟩)/\W.cell? ⟨b,o+4,none⟩=some (.slice A0 a.l.length c0)/\W.cell? ⟨b,o+5,none⟩=some (.int .i64 a2.op)/\W.cell? ⟨b,o+5+1,none⟩=some (.string ⟨a2.nm.toArray⟩)/\W.cell? ⟨b,o+5+2,none⟩=some (.int .i64 a2.n)/\W.cell? ⟨b,o+5+3,none⟩=some (.string ⟨a2.t.toArray⟩)/\W.cell? ⟨b,o+5+4,none⟩=some (.slice A1 a2.l.length c1))
   (first | exact HS.out | go_keep)
   (first
    | (go_at_call 80;(with_reducible refine(CW.out _ HX.out.below).mono ?_);rintro e w4 ⟨rfl,hb4⟩;replace HX:=hid (HX.out.step hb4);have p0:=bx_five9 HX.out;have p1:=HK0.out _ HX.out.below;have p2:=HK1.out _ HX.out.below;have HS:=hid (And.intro p0.2.2.2.2 (And.intro p1.1 (And.intro p1.2.1 (And.intro p1.2.2.1 (And.intro p1.2.2.2.1 (And.intro p1.2.2.2.2.1 (And.intro p2.1 (And.intro p2.2.1 (And.intro p2.2.2.1 (And.intro p2.2.2.2.1 p2.2.2.2.2.1))))))))));clear p0 p1 p2;clear hb4)
    | (go_at_call 43;(with_reducible refine(CE.out _ HX.out.below).mono ?_);rintro e w4 ⟨rfl,hb4⟩;replace HX:=hid (HX.out.step hb4);have p0:=bx_five9 HX.out;have p1:=HK0.out _ HX.out.below;have p2:=HK1.out _ HX.out.below;have HS:=hid (And.intro p0.2.2.2.2 (And.intro p1.1 (And.intro p1.2.1 (And.intro p1.2.2.1 (And.intro p1.2.2.2.1 (And.intro p1.2.2.2.2.1 (And.intro p2.1 (And.intro p2.2.1 (And.intro p2.2.2.1 (And.intro p2.2.2.2.1 p2.2.2.2.2.1))))))))));clear p0 p1 p2;clear hb4))
  go_wp2_with fail
  go_ret;exact⟨congrArg (fun z=>Ending.returned (Value.string z)) (by simp only [cat_mk,List.append_assoc,List.cons_append,List.nil_append]),HX.out.below⟩
 by_cases z29:op=29
 ·
  subst z29;rw [show Sy.sgn 29=[] from rfl] at CS
  obtain⟨a,rfl,hra⟩:=i12 (by omega)
  have h0:[a][0]? = some a:=rfl;have haz:=HZL.out a (by simp)
  obtain⟨l,hl1⟩:∃ l:List N,l=[a]:=⟨_,rfl⟩;rw [<- hl1] at hk h0 hl |-
  have hln:l.length=1:=by rw [hl1];rfl
  have hlen0:0 < l.length:=by omega
  have hlen0i:(0:Int) < (l.length:Int):=by omega
  have HLN:=hid hln;clear hl1 hln x1 x2 x3 x4 x5 x6 x7 x8 x10 x11 i7 i8 i9 i12 i15 HKR HOK HZL hn;obtain⟨e12,e13,e14,e28,e29⟩:=Sy.X_un (op:=29) (n:=n) (nm:=nm) (t:=t) h0;rw [e29] at hl |-
  clear e12 e13 e14 e28 e29;have hg:(Sy.par 8 a.op (Sy.X a)).length<=1099511627776/\nm.length<=1099511627776:=by simp only [List.length_append,List.length_cons] at hl;omega
  obtain⟨hg,hg2⟩:=hg;obtain⟨b,o,rfl⟩:=kid_addr hk h0;obtain⟨A0,c0,HK0⟩:=kid_all (e:=o) hk h0 (by omega)
  have CW:=hid (fun W (hW:Below w.heap.size w W)=>rwithin9_any HE 8 (li:=8) rfl a _ W S haz hra (HK0.out W hW).2.2.2.2.2 hg)
  generalize Sy.par 8 a.op (Sy.X a)=gl at *;clear hk h0 haz hra hl hop1 hop2 z1 z2 z3 z4 z5 z6 z7 z8 z10 z11 z12 z13 z14 z28;have sm2:¬ 9223372036854775807 < gl.length+1:=by omega
  have smb2:¬ 9223372036854775806 < gl.length:=by omega
  have sm3:¬ 9223372036854775807 < gl.length+1+nm.length:=by omega
  have HX:=hid (Bx.refl (w:=w) (cs:=#[.int .i64 29,.string ⟨nm.toArray⟩,.int .i64 n,.string ⟨t.toArray⟩,.slice (some ⟨b,o,none⟩) l.length c]));go_enter Tryz.func43,Tryz.ntmps43;go_wp2_with fail;refine(CS.out _).mono ?_;rintro e w4 ⟨rfl,rfl⟩;go_wp2_with fail;replace HX:=hid (HX.out.step ((Below.refl _ _).drew));have p0:=bx_five9 HX.out;have p1:=HK0.out _ HX.out.below;have HS:=hid (And.intro p0.2.1 (And.intro p0.2.2.2.2 (And.intro p1.1 (And.intro p1.2.1 (And.intro p1.2.2.1 (And.intro p1.2.2.2.1 p1.2.2.2.2.1))))));clear p0 p1;go_region_held3 (fun W=>W.cell? ⟨w.heap.size,1,none⟩=some (.string ⟨nm.toArray⟩)/\W.cell? ⟨w.heap.size,4,none⟩=some (.slice (some ⟨b,o,none⟩) l.length c)/\W.cell? ⟨b,o,none⟩=some (.int .i64 a.op)/\W.cell? ⟨b,o+1,none⟩=some (.string ⟨a.nm.toArray⟩)/\W.cell? ⟨b,o+2,none⟩=some (.int .i64 a.n)/\W.cell? ⟨b,o+3,none⟩=some (.string ⟨a.t.toArray⟩)/\W.cell? ⟨b,o+4,none⟩=some (.slice A0 a.l.length c0))
   (first | exact HS.out | go_keep)
   (first
    | (go_at_call 80;(with_reducible refine(CW.out _ HX.out.below).mono ?_);rintro e w4 ⟨rfl,hb4⟩;replace HX:=hid (HX.out.step hb4);have p0:=bx_five9 HX.out;have p1:=HK0.out _ HX.out.below;have HS:=hid (And.intro p0.2.1 (And.intro p0.2.2.2.2 (And.intro p1.1 (And.intro p1.2.1 (And.intro p1.2.2.1 (And.intro p1.2.2.2.1 p1.2.2.2.2.1))))));clear p0 p1;clear hb4))
  go_wp2_with fail
  go_ret;exact⟨congrArg (fun z=>Ending.returned (Value.string z)) (by simp only [cat_mk,List.append_assoc,List.cons_append,List.nil_append]),HX.out.below⟩
 have hb1:15<=op/\op<=27:=by omega
 obtain⟨a,a2,rfl,hra,hra2⟩:=i15 (by omega)
 have h0:[a,a2][0]? = some a:=rfl;have h1:[a,a2][1]? = some a2:=rfl;have haz:=HZL.out a (by simp)
 have haz2:=HZL.out a2 (by simp)
 obtain⟨l,hl1⟩:∃ l:List N,l=[a,a2]:=⟨_,rfl⟩;rw [<- hl1] at hk h0 h1 hl |-
 have hX:=Sy.X_bin (n:=n) (nm:=nm) (t:=t) h0 h1 hb1.1 hb1.2;rw [hX] at hl |-
 have hne:(Sy.sgn op).isEmpty=false:=by
  rcases op_cases9 hb1.1 hb1.2 with rfl | rfl | rfl | rfl | rfl | rfl | rfl | rfl | rfl | rfl | rfl | rfl | rfl<;>decide
 have CB:=hid (fun W (hW:Below w.heap.size w W)=>rbinary_any HE op n nm t l A c W S (hk.below hW) hb1.1 hb1.2 a a2 h0 h1 haz hra haz2 hra2 hl)
 clear hl1 hX x1 x2 x3 x4 x5 x6 x7 x8 x10 x11 i7 i8 i9 i12 i15 HKR HOK HZL hn hk h0 h1 haz haz2 hra hra2 hl hb1 hop1 hop2 z1 z2 z3 z4 z5 z6 z7 z8 z10 z11 z12 z13 z14 z28 z29;generalize Sy.sgn op=sg at *;generalize Sy.par (Sy.lft op) a.op (Sy.X a)++32::(sg++32::Sy.par (Sy.lev op+1) a2.op (Sy.X a2))=res at *;have HX:=hid (Bx.refl (w:=w) (cs:=#[.int .i64 op,.string ⟨nm.toArray⟩,.int .i64 n,.string ⟨t.toArray⟩,.slice A l.length c]));go_enter Tryz.func43,Tryz.ntmps43;go_wp2_with fail;refine(CS.out _).mono ?_;rintro e w4 ⟨rfl,rfl⟩;go_wp2_with fail;refine(CB.out _ HX.out.below).mono ?_;rintro e w4 ⟨rfl,hb4⟩;replace HX:=hid (HX.out.step hb4);clear hb4;go_wp2_with fail;go_ret;exact⟨rfl,HX.out.below⟩
theorem rexpr_all:∀ m,RX9 m
 | 0=>fun v _ _ _ hz=>by have:=Sy.N.size_pos v;omega
 | m+1=>fun v a w S hz hr hna hl=>by
  obtain⟨op,nm,n,t,l⟩:=v;exact rexpr_step (rexpr_all m) op n nm t l a w S hz hr hna hl
end Go.Proofs.YtgeppafcemeidaaGreatDoor
namespace Go.Proofs.YtgeppafcemeidaaGreatDoor
open Go.RowKit
open Sy (N)
theorem na_kr {w:World} {S:Nat->Prop} {x0 x1 x2 x3 sl:Value} {v:N} (h:NA w S (.agg #[x0,x1,x2,x3,sl]) v):KR w S sl v.l:=by
 obtain⟨A,c,he,_,hk⟩:=h.open_;injection he with he;have:=congrArg Array.toList he;simp only [List.cons.injEq,and_true] at this;rw [this.2.2.2.2];exact hk
theorem sp_add (d:Nat):Sy.sp d++[32,32]=Sy.sp (d+2):=by
 unfold Sy.sp;rw [List.replicate_succ',List.replicate_succ',List.append_assoc];rfl
def RS9 (m:Nat):Prop:=∀ (v:N) (a:Value) (d:Nat) (ib:ByteArray) (w:World) (S:Nat->Prop),ib=⟨(Sy.sp d).toArray⟩->Sy.N.size v<=m->Sy.rS v=true->d+4 * m<=2000000000->NA w S a v->(Sy.P v d).length<=1099511627776 ->
 Calls Tryz.prog 117 #[a,.string ib] w (RP9 w (Sy.P v d))
def RbkRel (w:World) (cs:Array Value) (l:List N) (d:Nat) (head:List UInt8) (v5 v6:Value) (wr:World):Prop :=
 ∃ k:Nat,k<=l.length/\v6=.int .i64 (k:Int)/\v5=.string ⟨(head++Sy.lines d (Sy.Ps (l.take k) (d+2))).toArray⟩/\Bx w cs wr
theorem rblock_any {m:Nat} (HE:RS9 m) (op n:Int) (nm t:List UInt8) (l:List N) (A:Option Addr) (c d:Nat) (ib:ByteArray) (w:World) (S:Nat->Prop) (hib:ib=⟨(Sy.sp d).toArray⟩) (hk:KR w S (.slice A l.length c) l) (hs:∀ v∈l,Sy.N.size v<=m/\Sy.rS v=true) (hn:l.length<=4398046511104) (hd:d+2+4 * m<=2000000000) (hl:(Sy.blk d (Sy.Ps l (d+2))).length<=1099511627776) :
  Calls Tryz.prog 68 #[.agg #[.int .i64 op,.string ⟨nm.toArray⟩,.int .i64 n,.string ⟨t.toArray⟩,.slice A l.length c],.string ib] w (RP9 w (Sy.blk d (Sy.Ps l (d+2)))):=by
 subst hib;have HE:=hid HE;have HK:=hid hk;have HS:=hid hs;have HBK:Hid (Sy.blk d (Sy.Ps l (d+2))=([123,10]++Sy.lines d (Sy.Ps l (d+2)))++(Sy.sp d++[125])):=by show _=_;unfold Sy.blk;simp
 rw [HBK.out] at hl |-
 have HL:=hid hl;have hsl:(Sy.sp d).length<=2000000000:=by rw [Sy.sp_len];omega
 have HSP:=hid (sp_add d);have hat:RbkRel w #[.int .i64 op,.string ⟨nm.toArray⟩,.int .i64 n,.string ⟨t.toArray⟩,.slice A l.length c] l d [123,10] (.string ⟨#[123,10]⟩) (.int .i64 0) (w.alloc (.cells #[.int .i64 op,.string ⟨nm.toArray⟩,.int .i64 n,.string ⟨t.toArray⟩,.slice A l.length c] 25)) :=
  ⟨0,Nat.zero_le _,rfl,by simp [Sy.Ps,Sy.lines],Bx.refl⟩
 have HAT:=hid hat;clear hk hs hl HBK hat;generalize hsp:Sy.sp d=s at *;clear hsp;go_enter Tryz.func68,Tryz.ntmps68;go_wp2_with fail
 go_loopw [5,6] (fun v5 v6 wr=>RbkRel w #[.int .i64 op,.string ⟨nm.toArray⟩,.int .i64 n,.string ⟨t.toArray⟩,.slice A l.length c] l d [123,10] v5 v6 wr) (fun _ v6 _=>l.length - (intOf v6).toNat)
 case atStart=>exact HAT.out
 case round =>
  clear HAT;obtain⟨k,hk,rfl,rfl,hbx⟩:=hrel;have HX:=hid hbx;clear hbx;obtain⟨q0,q1,q2,q3,q4⟩:=bx_five9 HX.out;by_cases hlt:k < l.length
  ·
   have h0:l[k]? = some l[k]:=List.getElem?_eq_getElem hlt;obtain⟨b,o,rfl⟩:=kid_addr HK.out h0;obtain⟨A0,c0,HK0⟩:=kid_all (e:=o+k * 5) HK.out h0 rfl;obtain⟨k00,k01,k02,k03,k04,hna⟩:=HK0.out _ HX.out.below;have HNA:=hid hna;obtain⟨hz,ha⟩:=HS.out l[k] (List.getElem_mem hlt);have HT:Hid ([123,10]++Sy.lines d (Sy.Ps (l.take (k+1)) (d+2))=([123,10]++Sy.lines d (Sy.Ps (l.take k) (d+2)))++((s++[32,32])++(Sy.P l[k] (d+2)++[10]))):=by
    show _=_;rw [Sy.lines_take hlt,HSP.out,List.append_assoc]
   have hll:=Sy.lines_le d (d+2) l (k+1);have hT2:=congrArg List.length HT.out;have hbn:([123,10]++Sy.lines d (Sy.Ps (l.take k) (d+2))).length<=1099511627776/\(Sy.P l[k] (d+2)).length<=1099511627776:=by
    have:=HL.out;simp only [List.length_append,List.length_cons,List.length_nil] at this hT2 |-
    omega
   obtain⟨hb1,hb2⟩:=hbn;have CE:=hid (fun W ib hib (hW:Below w.heap.size w W)=>HE.out l[k] _ (d+2) ib W S hib hz ha hd (HK0.out W hW).2.2.2.2.2 hb2)
   clear hz ha h0 hna hll hT2;generalize [123,10]++Sy.lines d (Sy.Ps (l.take k) (d+2))=acc at *;generalize l[k]=kd at *;generalize Sy.P kd (d+2)=pk at *;have sm2:¬ 9223372036854775807 < acc.length+s.length:=by omega
   have sm3:¬ 9223372036854775807 < acc.length+s.length+2:=by omega
   have sm4:¬ 9223372036854775807 < acc.length+s.length+2+pk.length:=by omega
   have sm5:¬ 9223372036854775807 < acc.length+s.length+2+pk.length+1:=by omega
   have sm6:¬ 9223372036854775807 < s.length+2:=by omega
   go_wp2_with fail
   refine(CE.out _ _ (by rw [cat_mk,HSP.out]) HX.out.below).mono ?_
   rintro e w2 ⟨rfl,hb⟩;replace HX:=hid (HX.out.step hb);clear hb;go_wp2_with fail;refine⟨⟨k+1,by omega,by go_num,by rw [HT.out];exact congrArg Value.string (by simp only [cat_mk,List.append_assoc]),HX.out⟩,?_⟩
   simp [intOf];omega
  ·
   have hk2:k=l.length:=by omega
   subst hk2;rw [List.take_length];obtain⟨acc,hacc⟩:∃ acc,acc=[123,10]++Sy.lines d (Sy.Ps l (d+2)):=⟨_,rfl⟩;have hb1:acc.length<=1099511627776:=by rw [hacc];have:=HL.out;simp only [List.length_append] at this |-;omega
   rw [<- hacc];have HACC:=hid hacc;clear hacc;have sm2:¬ 9223372036854775807 < acc.length+s.length:=by omega
   have sm3:¬ 9223372036854775807 < acc.length+s.length+1:=by omega
   go_wp2_with fail
   go_ret;exact⟨congrArg (fun z=>Ending.returned (Value.string z)) (by simp only [cat_mk,HACC.out,List.append_assoc,List.cons_append,List.nil_append]),HX.out.below⟩
theorem rblock_n {m:Nat} (HE:RS9 m) (v:N) (a:Value) (d:Nat) (ib:ByteArray) (w:World) (S:Nat->Prop) (hib:ib=⟨(Sy.sp d).toArray⟩) (hna:NA w S a v) (hz:Sy.N.size v<=m+1) (hr:Sy.rB v=true) (hd:d+2+4 * m<=2000000000) (hl:(Sy.P v d).length<=1099511627776) :
  Calls Tryz.prog 68 #[a,.string ib] w (RP9 w (Sy.P v d)):=by
 have hop:=((Sy.rP_aP v).b hr).2;rw [Sy.P_blk hop] at hl |-
 obtain⟨op,nm,n,t,l⟩:=v;obtain⟨A,c,rfl,hok,hkr⟩:=hna.open_;rw [Sy.rB,Bool.and_eq_true,Sy.rSs_all] at hr;refine rblock_any HE op n nm t l A c d ib w S hib hkr (fun k hk2=>⟨?_,List.all_eq_true.1 hr.2 k hk2⟩) ?_ hd hl
 ·
  have h1:=Sy.N.size_mem hk2;rw [Sy.N.size_mk] at hz;omega
 ·
  have:=hok.2.2.2.2.2.2;simp only [Sy.N.l] at this;omega
end Go.Proofs.YtgeppafcemeidaaGreatDoor
namespace Go.Proofs.YtgeppafcemeidaaGreatDoor
open Go.RowKit
open Sy (N)
namespace Sy
theorem rCs_all:∀ {l:List N} {i:Nat},rCs i l=true->∀ v∈l,(v.op=51/\∃ b,v.l=[b]/\rB b=true)\/(v.op=50/\∃ a b,v.l=[a,b]/\rX a=true/\rB b=true)
 | [],_,_,v,hv=>by cases hv
 | .mk op nm n t k::l,i,h,v,hv=>by
  obtain⟨h1,h2⟩:=rCs_one h;rcases List.mem_cons.1 hv with rfl | hv
  ·
   rw [rCs] at h1;simp only [Bool.and_eq_true,Bool.or_eq_true,beq_iff_eq] at h1;rcases h1.1 with g | g
   ·
    refine .inl ⟨g.1.1.1,?_⟩;have:=g.2
    match k,this with
    | [b],this=>rw [rEl] at this;exact⟨b,rfl,this⟩
   ·
    refine .inr ⟨g.1.1.1,?_⟩;have:=g.2
    match k,this with
    | [a,b],this=>rw [rWh,Bool.and_eq_true] at this;exact⟨a,b,rfl,this.1,this.2⟩
  ·
   exact rCs_all h2 v hv
theorem P51' {v b:N} {d:Nat} (ho:v.op=51) (h:v.l[0]? = some b):P v d=[101,108,115,101,32]++P b d:=by
 obtain⟨op,nm,n,t,l⟩:=v;simp only [N.op] at ho;subst ho;exact P51 h
theorem P50n' {v a b:N} {d:Nat} (ho:v.op=50) (h:v.l[0]? = some a) (h1:v.l[1]? = some b) (hn:v.nm=[]):P v d=[99,97,115,101,32]++(X a++32::P b d):=by
 obtain⟨op,nm,n,t,l⟩:=v;simp only [N.op] at ho;subst ho;exact P50n h h1 hn
theorem P50y' {v a b:N} {d:Nat} (ho:v.op=50) (h:v.l[0]? = some a) (h1:v.l[1]? = some b) (hn:v.nm≠[]):P v d=([99,97,115,101,32]++(v.nm++[32,61,32]))++(X a++32::P b d):=by
 obtain⟨op,nm,n,t,l⟩:=v;simp only [N.op] at ho;subst ho;exact P50y h h1 hn
end Sy
theorem rchoice_any {m:Nat} (HE:RS9 m) (n:Int) (nm t:List UInt8) (l:List N) (A:Option Addr) (c d:Nat) (ib:ByteArray) (w:World) (S:Nat->Prop) (hib:ib=⟨(Sy.sp d).toArray⟩) (hk:KR w S (.slice A l.length c) l) (hz:∀ v∈l,Sy.N.size v<=m) (hr:Sy.rCs 0 l=true) (hn:l.length<=4398046511104) (hd:d+4+4 * m<=2000000000) (hl:(Sy.P (.mk 49 nm n t l) d).length<=1099511627776) :
  Calls Tryz.prog 160 #[.agg #[.int .i64 49,.string ⟨nm.toArray⟩,.int .i64 n,.string ⟨t.toArray⟩,.slice A l.length c],.string ib] w (RP9 w (Sy.P (.mk 49 nm n t l) d)):=by
 subst hib;have HE:=hid HE;have HK:=hid hk;have HZ:=hid hz;have HR:=hid (Sy.rCs_all hr);have HBK:Hid (Sy.P (.mk 49 nm n t l) d=([115,101,108,101,99,116,32,123,10]++Sy.lines d (Sy.Ps l (d+2)))++(Sy.sp d++[125])):=by show _=_;rw [Sy.P49];unfold Sy.blk;simp
 rw [HBK.out] at hl |-
 have HL:=hid hl;have hsl:(Sy.sp d).length<=2000000000:=by rw [Sy.sp_len];omega
 have HSP:=hid (sp_add d);have hat:RbkRel w #[.int .i64 49,.string ⟨nm.toArray⟩,.int .i64 n,.string ⟨t.toArray⟩,.slice A l.length c] l d [115,101,108,101,99,116,32,123,10] (.string ⟨#[115,101,108,101,99,116,32,123,10]⟩) (.int .i64 0) (w.alloc (.cells #[.int .i64 49,.string ⟨nm.toArray⟩,.int .i64 n,.string ⟨t.toArray⟩,.slice A l.length c] 25)) :=
  ⟨0,Nat.zero_le _,rfl,by simp [Sy.Ps,Sy.lines],Bx.refl⟩
 have HAT:=hid hat;clear hk hz hr hl HBK hat;generalize hsp:Sy.sp d=s at *;clear hsp;go_enter Tryz.func160,Tryz.ntmps160;go_wp2_with fail
 go_loopw [5,6] (fun v5 v6 wr=>RbkRel w #[.int .i64 49,.string ⟨nm.toArray⟩,.int .i64 n,.string ⟨t.toArray⟩,.slice A l.length c] l d [115,101,108,101,99,116,32,123,10] v5 v6 wr) (fun _ v6 _=>l.length - (intOf v6).toNat)
 case atStart=>exact HAT.out
 case round =>
  clear HAT;obtain⟨k,hk,rfl,rfl,hbx⟩:=hrel;have HX:=hid hbx;clear hbx;obtain⟨q0,q1,q2,q3,q4⟩:=bx_five9 HX.out;by_cases hlt:k < l.length
  ·
   have h0:l[k]? = some l[k]:=List.getElem?_eq_getElem hlt;obtain⟨b,o,rfl⟩:=kid_addr HK.out h0;obtain⟨A0,c0,HK0⟩:=kid_all (e:=o+k * 5) HK.out h0 rfl;obtain⟨k00,k01,k02,k03,k04,hna⟩:=HK0.out _ HX.out.below;have hz:=HZ.out l[k] (List.getElem_mem hlt);have hor:=HR.out l[k] (List.getElem_mem hlt);have HT:Hid ([115,101,108,101,99,116,32,123,10]++Sy.lines d (Sy.Ps (l.take (k+1)) (d+2))=([115,101,108,101,99,116,32,123,10]++Sy.lines d (Sy.Ps (l.take k) (d+2)))++((s++[32,32])++(Sy.P l[k] (d+2)++[10]))):=by
    show _=_;rw [Sy.lines_take hlt,HSP.out,List.append_assoc]
   have hll:=Sy.lines_le d (d+2) l (k+1);have hT2:=congrArg List.length HT.out;have hbn:([115,101,108,101,99,116,32,123,10]++Sy.lines d (Sy.Ps (l.take k) (d+2))).length<=1099511627776/\(Sy.P l[k] (d+2)).length<=1099511627776:=by
    have:=HL.out;simp only [List.length_append,List.length_cons,List.length_nil] at this hT2 |-
    omega
   obtain⟨hb1,hb2⟩:=hbn;have hkr0:=na_kr ((HK0.out w (Below.refl _ _)).2.2.2.2.2);clear h0 hna hll hT2;generalize [115,101,108,101,99,116,32,123,10]++Sy.lines d (Sy.Ps (l.take k) (d+2))=acc at *;generalize l[k]=kd at *;have sm2:¬ 9223372036854775807 < acc.length+s.length:=by omega
   have sm3:¬ 9223372036854775807 < acc.length+s.length+2:=by omega
   have sm6:¬ 9223372036854775807 < s.length+2:=by omega
   have HB0:=hid (bl (w:=wr) (.cells #[.int .i64 kd.op,.string ⟨kd.nm.toArray⟩,.int .i64 kd.n,.string ⟨kd.t.toArray⟩,.slice A0 kd.l.length c0] 25));rcases hor with⟨ho,b1,hkl,hrb⟩ | ⟨ho,a1,b1,hkl,hra,hrb⟩
   ·
    have h0:kd.l[0]? = some b1:=by rw [hkl];rfl
    have hbz:Sy.N.size b1<=m:=by have:=Sy.N.size_mem (v:=b1) (l:=kd.l) (by rw [hkl];simp);obtain⟨o1,o2,o3,o4,o5⟩:=kd;rw [Sy.N.size_mk] at hz;simp only [Sy.N.l] at this;omega
    have hlk:0 < kd.l.length:=by rw [hkl];simp
    rw [Sy.P51' ho h0] at HT hb2;have hob:(kd.op==51)=true:=by simpa using ho
    obtain⟨b2,o2,rfl⟩:=kid_addr hkr0 h0;obtain⟨A1,c1,HK1⟩:=kid_all (e:=o2) hkr0 h0 (by omega)
    have hb3:(Sy.P b1 (d+2)).length<=1099511627776:=by simp only [List.length_append] at hb2;omega
    have CB:=hid (fun W ib hib (hW:Below w.heap.size w W)=>rblock_n HE.out b1 _ (d+2) ib W S hib (HK1.out W hW).2.2.2.2.2 (Nat.le_succ_of_le hbz) hrb (by omega) hb3)
    clear hz ho hkl hrb h0 hbz hkr0 hb2;generalize Sy.P b1 (d+2)=pk at *;have sm4:¬ 9223372036854775807 < acc.length+s.length+2+5:=by omega
    have sm5:¬ 9223372036854775807 < acc.length+s.length+2+5+pk.length:=by omega
    have sm7:¬ 9223372036854775807 < acc.length+s.length+2+5+pk.length+1:=by omega
    obtain⟨k10,k11,k12,k13,k14,_⟩:=HK1.out _ (HX.out.step HB0.out).below;go_wp2_with fail;refine(CB.out _ _ (by rw [cat_mk,HSP.out]) (HX.out.step HB0.out).below).mono ?_
    rintro e w2 ⟨rfl,hb⟩;replace HX:=hid ((HX.out.step HB0.out).step hb);clear hb;go_wp2_with fail;refine⟨⟨k+1,by omega,by go_num,by rw [HT.out];exact congrArg Value.string (by simp only [cat_mk,List.append_assoc]),HX.out⟩,?_⟩
    simp [intOf];omega
   ·
    have h0:kd.l[0]? = some a1:=by rw [hkl];rfl
    have h1:kd.l[1]? = some b1:=by rw [hkl];rfl
    have hbz:Sy.N.size b1<=m:=by have:=Sy.N.size_mem (v:=b1) (l:=kd.l) (by rw [hkl];simp);obtain⟨o1,o2,o3,o4,o5⟩:=kd;rw [Sy.N.size_mk] at hz;simp only [Sy.N.l] at this;omega
    have hlk:1 < kd.l.length:=by rw [hkl];simp
    have hlk0:0 < kd.l.length:=by omega
    have hlki:(1:Int) < (kd.l.length:Int):=by omega
    have hlk0i:(0:Int) < (kd.l.length:Int):=by omega
    have hob:(kd.op==51)=false:=by rw [ho];rfl
    obtain⟨b2,o2,rfl⟩:=kid_addr hkr0 h0;obtain⟨A1,c1,HK1⟩:=kid_all (e:=o2) hkr0 h0 (by omega)
    obtain⟨A2,c2,HK2⟩:=kid_all (e:=o2+5) hkr0 h1 (by omega)
    by_cases hnm:kd.nm=[]
    ·
     rw [Sy.P50n' ho h0 h1 hnm] at HT hb2;have hne:kd.nm.isEmpty=true:=by rw [hnm];rfl
     have hb3:(Sy.P b1 (d+2)).length<=1099511627776/\(Sy.X a1).length<=1099511627776:=by simp only [List.length_append,List.length_cons] at hb2;omega
     obtain⟨hb3,hb4⟩:=hb3;have CB:=hid (fun W ib hib (hW:Below w.heap.size w W)=>rblock_n HE.out b1 _ (d+2) ib W S hib (HK2.out W hW).2.2.2.2.2 (Nat.le_succ_of_le hbz) hrb (by omega) hb3)
     have CX:=hid (fun W (hW:Below w.heap.size w W)=>rexpr_all _ a1 _ W S (Nat.le_refl _) hra (HK1.out W hW).2.2.2.2.2 hb4)
     clear hz ho hkl hrb h0 h1 hbz hkr0 hb2 hra hnm;generalize Sy.P b1 (d+2)=pk at *;generalize Sy.X a1=xa at *;have sn3:¬ 9223372036854775807 < acc.length+s.length+2:=by omega
     have snb3:¬ 9223372036854775805 < acc.length+s.length:=by omega
     have sn4:¬ 9223372036854775807 < acc.length+s.length+7:=by omega
     have snb4:¬ 9223372036854775800 < acc.length+s.length:=by omega
     have sn5:¬ 9223372036854775807 < acc.length+s.length+7+xa.length:=by omega
     have sn6:¬ 9223372036854775807 < acc.length+s.length+7+xa.length+1:=by omega
     have snb6:¬ 9223372036854775806 < acc.length+s.length+7+xa.length:=by omega
     have sn7:¬ 9223372036854775807 < acc.length+s.length+7+xa.length+1+pk.length:=by omega
     have sn8:¬ 9223372036854775807 < acc.length+s.length+7+xa.length+1+pk.length+1:=by omega
     have snb8:¬ 9223372036854775806 < acc.length+s.length+7+xa.length+1+pk.length:=by omega
     have so2:¬ 9223372036854775807 < s.length+2:=by omega
     have sob2:¬ 9223372036854775805 < s.length:=by omega
     have CB2:=hid (fun W (hW:Below w.heap.size w W)=>CB.out W (⟨s.toArray⟩++⟨#[32,32]⟩) (by rw [cat_mk,HSP.out]) hW)
     have HY:=hid (Bx.refl (w:=wr) (cs:=#[.int .i64 kd.op,.string ⟨kd.nm.toArray⟩,.int .i64 kd.n,.string ⟨kd.t.toArray⟩,.slice (some ⟨b2,o2,none⟩) kd.l.length c0]));replace HY:=hid (HY.out.step ((Below.refl _ _).drew));have HB:=hid (HX.out.below.trans (HY.out.below.mono HX.out.below.size));have p0:=bx_five9 HY.out;have p1:=HK1.out _ HB.out;have p2:=HK2.out _ HB.out;have HS2:=hid (And.intro p0.2.2.2.2 (And.intro p1.1 (And.intro p1.2.1 (And.intro p1.2.2.1 (And.intro p1.2.2.2.1 (And.intro p1.2.2.2.2.1 (And.intro p2.1 (And.intro p2.2.1 (And.intro p2.2.2.1 (And.intro p2.2.2.2.1 p2.2.2.2.2.1))))))))));clear p0 p1 p2;go_wp2_with fail;go_region_held3 (fun W=>W.cell? ⟨wr.heap.size,4,none⟩=some (.slice (some ⟨b2,o2,none⟩) kd.l.length c0)/\W.cell? ⟨b2,o2,none⟩=some (.int .i64 a1.op)/\W.cell? ⟨b2,o2+1,none⟩=some (.string ⟨a1.nm.toArray⟩)/\W.cell? ⟨b2,o2+2,none⟩=some (.int .i64 a1.n)/\W.cell? ⟨b2,o2+3,none⟩=some (.string ⟨a1.t.toArray⟩)/\W.cell? ⟨b2,o2+4,none⟩=some (.slice A1 a1.l.length c1)/\W.cell? ⟨b2,o2+5,none⟩=some (.int .i64 b1.op)/\W.cell? ⟨b2,o2+5+1,none⟩=some (.string ⟨b1.nm.toArray⟩)/\W.cell? ⟨b2,o2+5+2,none⟩=some (.int .i64 b1.n)/\W.cell? ⟨b2,o2+5+3,none⟩=some (.string ⟨b1.t.toArray⟩)/\W.cell? ⟨b2,o2+5+4,none⟩=some (.slice A2 b1.l.length c2))
      (first | exact HS2.out | go_keep)
      (first
       | (go_at_call 43;(with_reducible refine(CX.out _ HB.out).mono ?_);rintro e w4 ⟨rfl,hb4⟩;replace HY:=hid (HY.out.step hb4);have HB:=hid (HX.out.below.trans (HY.out.below.mono HX.out.below.size));have p0:=bx_five9 HY.out;have p1:=HK1.out _ HB.out;have p2:=HK2.out _ HB.out;have HS2:=hid (And.intro p0.2.2.2.2 (And.intro p1.1 (And.intro p1.2.1 (And.intro p1.2.2.1 (And.intro p1.2.2.2.1 (And.intro p1.2.2.2.2.1 (And.intro p2.1 (And.intro p2.2.1 (And.intro p2.2.2.1 (And.intro p2.2.2.2.1 p2.2.2.2.2.1))))))))));clear p0 p1 p2;clear hb4)
       | (go_at_call 68;(with_reducible refine(CB2.out _ HB.out).mono ?_);rintro e w4 ⟨rfl,hb4⟩;replace HY:=hid (HY.out.step hb4);have HB:=hid (HX.out.below.trans (HY.out.below.mono HX.out.below.size));have p0:=bx_five9 HY.out;have p1:=HK1.out _ HB.out;have p2:=HK2.out _ HB.out;have HS2:=hid (And.intro p0.2.2.2.2 (And.intro p1.1 (And.intro p1.2.1 (And.intro p1.2.2.1 (And.intro p1.2.2.2.1 (And.intro p1.2.2.2.2.1 (And.intro p2.1 (And.intro p2.2.1 (And.intro p2.2.2.1 (And.intro p2.2.2.2.1 p2.2.2.2.2.1))))))))));clear p0 p1 p2;clear hb4))
     go_wp2_with fail
     refine⟨⟨k+1,by omega,by go_num,by rw [HT.out];exact congrArg Value.string (by simp only [cat_mk,List.append_assoc,List.cons_append,List.nil_append]),HX.out.step HY.out.below⟩,?_⟩
     simp [intOf];omega
    ·
     rw [Sy.P50y' ho h0 h1 hnm] at HT hb2;have hne:kd.nm.isEmpty=false:=by
      cases hx:kd.nm with
      | nil=>exact absurd hx hnm
      | cons _ _=>rfl
     have hnl:kd.nm.length<=1099511627776:=by simp only [List.length_append] at hb2;omega
     have hb3:(Sy.P b1 (d+2)).length<=1099511627776/\(Sy.X a1).length<=1099511627776:=by simp only [List.length_append,List.length_cons] at hb2;omega
     obtain⟨hb3,hb4⟩:=hb3;have CB:=hid (fun W ib hib (hW:Below w.heap.size w W)=>rblock_n HE.out b1 _ (d+2) ib W S hib (HK2.out W hW).2.2.2.2.2 (Nat.le_succ_of_le hbz) hrb (by omega) hb3)
     have CX:=hid (fun W (hW:Below w.heap.size w W)=>rexpr_all _ a1 _ W S (Nat.le_refl _) hra (HK1.out W hW).2.2.2.2.2 hb4)
     clear hz ho hkl hrb h0 h1 hbz hkr0 hb2 hra hnm;generalize Sy.P b1 (d+2)=pk at *;generalize Sy.X a1=xa at *;have sn3:¬ 9223372036854775807 < acc.length+s.length+2:=by omega
     have snb3:¬ 9223372036854775805 < acc.length+s.length:=by omega
     have sn4:¬ 9223372036854775807 < acc.length+s.length+7:=by omega
     have snb4:¬ 9223372036854775800 < acc.length+s.length:=by omega
     have sn5:¬ 9223372036854775807 < acc.length+s.length+7+kd.nm.length:=by omega
     have sn6:¬ 9223372036854775807 < acc.length+s.length+7+kd.nm.length+3:=by omega
     have snb6:¬ 9223372036854775804 < acc.length+s.length+7+kd.nm.length:=by omega
     have sn7:¬ 9223372036854775807 < acc.length+s.length+7+kd.nm.length+3+xa.length:=by omega
     have sn8:¬ 9223372036854775807 < acc.length+s.length+7+kd.nm.length+3+xa.length+1:=by omega
     have snb8:¬ 9223372036854775806 < acc.length+s.length+7+kd.nm.length+3+xa.length:=by omega
     have sn9:¬ 9223372036854775807 < acc.length+s.length+7+kd.nm.length+3+xa.length+1+pk.length:=by omega
     have sn10:¬ 9223372036854775807 < acc.length+s.length+7+kd.nm.length+3+xa.length+1+pk.length+1:=by omega
     have snb10:¬ 9223372036854775806 < acc.length+s.length+7+kd.nm.length+3+xa.length+1+pk.length:=by omega
     have so2:¬ 9223372036854775807 < s.length+2:=by omega
     have sob2:¬ 9223372036854775805 < s.length:=by omega
     have CB2:=hid (fun W (hW:Below w.heap.size w W)=>CB.out W (⟨s.toArray⟩++⟨#[32,32]⟩) (by rw [cat_mk,HSP.out]) hW)
     have HY:=hid (Bx.refl (w:=wr) (cs:=#[.int .i64 kd.op,.string ⟨kd.nm.toArray⟩,.int .i64 kd.n,.string ⟨kd.t.toArray⟩,.slice (some ⟨b2,o2,none⟩) kd.l.length c0]));replace HY:=hid (HY.out.step ((Below.refl _ _).drew));have HB:=hid (HX.out.below.trans (HY.out.below.mono HX.out.below.size));have p0:=bx_five9 HY.out;have p1:=HK1.out _ HB.out;have p2:=HK2.out _ HB.out;have HS2:=hid (And.intro p0.2.2.2.2 (And.intro p1.1 (And.intro p1.2.1 (And.intro p1.2.2.1 (And.intro p1.2.2.2.1 (And.intro p1.2.2.2.2.1 (And.intro p2.1 (And.intro p2.2.1 (And.intro p2.2.2.1 (And.intro p2.2.2.2.1 p2.2.2.2.2.1))))))))));clear p0 p1 p2;go_wp2_with fail;go_region_held3 (fun W=>W.cell? ⟨wr.heap.size,4,none⟩=some (.slice (some ⟨b2,o2,none⟩) kd.l.length c0)/\W.cell? ⟨b2,o2,none⟩=some (.int .i64 a1.op)/\W.cell? ⟨b2,o2+1,none⟩=some (.string ⟨a1.nm.toArray⟩)/\W.cell? ⟨b2,o2+2,none⟩=some (.int .i64 a1.n)/\W.cell? ⟨b2,o2+3,none⟩=some (.string ⟨a1.t.toArray⟩)/\W.cell? ⟨b2,o2+4,none⟩=some (.slice A1 a1.l.length c1)/\W.cell? ⟨b2,o2+5,none⟩=some (.int .i64 b1.op)/\W.cell? ⟨b2,o2+5+1,none⟩=some (.string ⟨b1.nm.toArray⟩)/\W.cell? ⟨b2,o2+5+2,none⟩=some (.int .i64 b1.n)/\W.cell? ⟨b2,o2+5+3,none⟩=some (.string ⟨b1.t.toArray⟩)/\W.cell? ⟨b2,o2+5+4,none⟩=some (.slice A2 b1.l.length c2))
      (first | exact HS2.out | go_keep)
      (first
       | (go_at_call 43;(with_reducible refine(CX.out _ HB.out).mono ?_);rintro e w4 ⟨rfl,hb4⟩;replace HY:=hid (HY.out.step hb4);have HB:=hid (HX.out.below.trans (HY.out.below.mono HX.out.below.size));have p0:=bx_five9 HY.out;have p1:=HK1.out _ HB.out;have p2:=HK2.out _ HB.out;have HS2:=hid (And.intro p0.2.2.2.2 (And.intro p1.1 (And.intro p1.2.1 (And.intro p1.2.2.1 (And.intro p1.2.2.2.1 (And.intro p1.2.2.2.2.1 (And.intro p2.1 (And.intro p2.2.1 (And.intro p2.2.2.1 (And.intro p2.2.2.2.1 p2.2.2.2.2.1))))))))));clear p0 p1 p2;clear hb4)
       | (go_at_call 68;(with_reducible refine(CB2.out _ HB.out).mono ?_);rintro e w4 ⟨rfl,hb4⟩;replace HY:=hid (HY.out.step hb4);have HB:=hid (HX.out.below.trans (HY.out.below.mono HX.out.below.size));have p0:=bx_five9 HY.out;have p1:=HK1.out _ HB.out;have p2:=HK2.out _ HB.out;have HS2:=hid (And.intro p0.2.2.2.2 (And.intro p1.1 (And.intro p1.2.1 (And.intro p1.2.2.1 (And.intro p1.2.2.2.1 (And.intro p1.2.2.2.2.1 (And.intro p2.1 (And.intro p2.2.1 (And.intro p2.2.2.1 (And.intro p2.2.2.2.1 p2.2.2.2.2.1))))))))));clear p0 p1 p2;clear hb4))
     go_wp2_with fail
     refine⟨⟨k+1,by omega,by go_num,by rw [HT.out];exact congrArg Value.string (by simp only [cat_mk,List.append_assoc,List.cons_append,List.nil_append]),HX.out.step HY.out.below⟩,?_⟩
     simp [intOf];omega
  ·
   have hk2:k=l.length:=by omega
   subst hk2;rw [List.take_length];obtain⟨acc,hacc⟩:∃ acc,acc=[115,101,108,101,99,116,32,123,10]++Sy.lines d (Sy.Ps l (d+2)):=⟨_,rfl⟩;have hb1:acc.length<=1099511627776:=by rw [hacc];have:=HL.out;simp only [List.length_append] at this |-;omega
   rw [<- hacc];have HACC:=hid hacc;clear hacc;have sm2:¬ 9223372036854775807 < acc.length+s.length:=by omega
   have sm3:¬ 9223372036854775807 < acc.length+s.length+1:=by omega
   go_wp2_with fail
   go_ret;exact⟨congrArg (fun z=>Ending.returned (Value.string z)) (by simp only [cat_mk,HACC.out,List.append_assoc,List.cons_append,List.nil_append]),HX.out.below⟩
end Go.Proofs.YtgeppafcemeidaaGreatDoor
namespace Go.Proofs.YtgeppafcemeidaaGreatDoor
open Go.RowKit
open Sy (N)
namespace Sy
theorem rS_inv {op n:Int} {nm t:List UInt8} {l:List N} (h:rS (.mk op nm n t l)=true) :
  40<=op/\op<=52/\op≠50/\op≠51/\(op=40\/op=41\/op=45\/op=52->∃ a,l=[a]/\rX a=true)/\(op=42->rIf l=true)/\(op=43->∃ a b,l=[a,b]/\rX a=true/\rB b=true) /\
  (op=44->l=[]\/∃ a,l=[a]/\rX a=true)/\(op=46->∃ a b,l=[a,b]/\rB a=true/\rB b=true)/\(op=47->∃ a,l=[a]/\rB a=true)/\(op=48->l.all rX=true)/\(op=49->rCs 0 l=true):=by
 obtain⟨g1,g2,g3⟩:=(rP_aP _).s h;simp only [N.op] at g2 g3;rw [rS] at h;have one:l.length=1->rXs l=true->∃ a,l=[a]/\rX a=true:=fun h1 h2=>by
  match l,h1,h2 with
  | [a],_,h2=>rw [rXs,Bool.and_eq_true] at h2;exact⟨a,rfl,h2.1⟩
 refine⟨g2,g3,?_,?_,?_,?_,?_,?_,?_,?_,?_,?_⟩
 ·
  intro e;subst e;revert h;simp
 ·
  intro e;subst e;revert h;simp
 ·
  intro e;rcases e with e | e | e | e
  ·
   subst e;have h2:(bareN (.mk 40 nm n t l) true false&&l.length==1&&rXs l)=true:=h;simp only [Bool.and_eq_true,beq_iff_eq] at h2;exact one h2.1.2 h2.2
  ·
   subst e;have h2:(bareN (.mk 41 nm n t l) true false&&l.length==1&&rXs l)=true:=h;simp only [Bool.and_eq_true,beq_iff_eq] at h2;exact one h2.1.2 h2.2
  ·
   subst e;have h2:(bareN (.mk 45 nm n t l) false false&&l.length==1&&rXs l)=true:=h;simp only [Bool.and_eq_true,beq_iff_eq] at h2;exact one h2.1.2 h2.2
  ·
   subst e;have h2:(bareN (.mk 52 nm n t l) false false&&l.length==1&&rXs l)=true:=h;simp only [Bool.and_eq_true,beq_iff_eq] at h2;exact one h2.1.2 h2.2
 ·
  intro e;subst e;have h2:(bareN (.mk 42 nm n t l) false false&&rIf l)=true:=h;rw [Bool.and_eq_true] at h2;exact h2.2
 ·
  intro e;subst e;have h2:(bareN (.mk 43 nm n t l) false false&&rWh l)=true:=h;rw [Bool.and_eq_true] at h2
  match l,h2.2 with
  | [a,b],h3=>rw [rWh,Bool.and_eq_true] at h3;exact⟨a,b,rfl,h3.1,h3.2⟩
 ·
  intro e;subst e;have h2:(bareN (.mk 44 nm n t l) false false&&decide (l.length<=1)&&rXs l)=true:=h;simp only [Bool.and_eq_true,decide_eq_true_eq] at h2
  match l,h2 with
  | [],_=>exact .inl rfl
  | [a],h2=>exact .inr (one rfl h2.2)
  | a::b::r,h2=>simp at h2
 ·
  intro e;subst e;have h2:(bareN (.mk 46 nm n t l) true false&&l.length==2&&rBs l)=true:=h;simp only [Bool.and_eq_true,beq_iff_eq] at h2
  match l,h2 with
  | [a,b],h2 =>
   have:=h2.2;rw [rBs,Bool.and_eq_true,rBs,Bool.and_eq_true] at this;exact⟨a,b,rfl,this.1,this.2.1⟩
 ·
  intro e;subst e;have h2:(bareN (.mk 47 nm n t l) false false&&l.length==1&&rBs l)=true:=h;simp only [Bool.and_eq_true,beq_iff_eq] at h2
  match l,h2 with
  | [a],h2 =>
   have:=h2.2;rw [rBs,Bool.and_eq_true] at this;exact⟨a,rfl,this.1⟩
 ·
  intro e;subst e;have h2:(bareN (.mk 48 nm n t l) true false&&rXs l)=true:=h;rw [Bool.and_eq_true,rXs_all] at h2;exact h2.2
 ·
  intro e;subst e;have h2:(bareN (.mk 49 nm n t l) false false&&decide (0 < l.length)&&rCs 0 l)=true:=h;simp only [Bool.and_eq_true] at h2;exact h2.2
theorem rIf_inv {l:List N} (h:rIf l=true):(∃ a b,l=[a,b]/\rX a=true/\rB b=true)\/(∃ a b c,l=[a,b,c]/\rX a=true/\rB b=true/\((c.op=53/\rB c=true)\/(c.op=42/\rS c=true))):=by
 match l,h with
 | [a,b],h=>rw [rIf,Bool.and_eq_true] at h;exact .inl ⟨a,b,rfl,h.1,h.2⟩
 | [a,b,c],h =>
  rw [rIf,Bool.and_eq_true,Bool.and_eq_true,Bool.or_eq_true,Bool.and_eq_true] at h;refine .inr ⟨a,b,c,rfl,h.1.1,h.1.2,?_⟩;rcases h.2 with h | h
  ·
   exact .inl ⟨((rP_aP c).b h).2,h⟩
  ·
   exact .inr ⟨by simpa using h.1,h.2⟩
end Sy
def RC9 (m:Nat):Prop:=∀ (v:N) (a:Value) (d:Nat) (ib:ByteArray) (w:World) (S:Nat->Prop),ib=⟨(Sy.sp d).toArray⟩->Sy.N.size v<=m->Sy.rS v=true->v.op=42->d+4 * m<=2000000000->NA w S a v->(Sy.P v d).length<=1099511627776 ->
 Calls Tryz.prog 159 #[a,.string ib] w (RP9 w (Sy.P v d))
theorem rcond_step {m:Nat} (HE:RS9 m) (HC:RC9 m):RC9 (m+1):=by
 intro v va d ib w S hib hz hr ho hd hna hl;obtain⟨op,nm,n,t,l⟩:=v;simp only [Sy.N.op] at ho;subst ho;obtain⟨A,c,rfl,hok,hk⟩:=hna.open_;simp only [Sy.N.op,Sy.N.nm,Sy.N.n,Sy.N.t,Sy.N.l] at hok hk |-
 have hn:l.length<=4398046511104:=by have:=hok.2.2.2.2.2.2;omega
 have HZL:Hid (∀ v∈l,Sy.N.size v<=m):=fun v hv=>by
  have h1:=Sy.N.size_mem hv;rw [Sy.N.size_mk] at hz;omega
 have hd2:d+2+4 * m<=2000000000:=by omega
 have hif:=(Sy.rS_inv hr).2.2.2.2.2.1 rfl;rcases Sy.rIf_inv hif with⟨a,b2,hl1,hr0,hr1⟩ | ⟨a,b2,kc,hl1,hr0,hr1,hr2⟩
 ·
  clear hif;have hln:l.length=2:=by rw [hl1];rfl
  have hlen0:0 < l.length:=by omega
  have hlen0i:(0:Int) < (l.length:Int):=by omega
  have h0:l[0]? = some a:=by rw [hl1];rfl
  have hz0:=HZL.out a (by rw [hl1];simp)
  have hlen1:1 < l.length:=by omega
  have hlen1i:(1:Int) < (l.length:Int):=by omega
  have h1:l[1]? = some b2:=by rw [hl1];rfl
  have hz1:=HZL.out b2 (by rw [hl1];simp)
  rw [Sy.P42n h0 h1 (by omega)] at hl |-
  have hg:(Sy.X a).length<=1099511627776/\(Sy.P b2 d).length<=1099511627776:=by simp only [List.length_append,List.length_cons] at hl;omega
  obtain⟨hg0,hg1⟩:=id hg;obtain⟨b,o,rfl⟩:=kid_addr hk h0;obtain⟨A0,c0,HK0⟩:=kid_all (e:=o) hk h0 (by omega)
  obtain⟨A1,c1,HK1⟩:=kid_all (e:=o+5) hk h1 (by omega)
  have C0:=hid (fun W (hW:Below w.heap.size w W)=>rexpr_all _ a _ W S (Nat.le_refl _) hr0 (HK0.out W hW).2.2.2.2.2 hg0)
  have C1:=hid (fun W (hW:Below w.heap.size w W)=>rblock_n HE b2 _ d ib W S hib (HK1.out W hW).2.2.2.2.2 (Nat.le_succ_of_le hz1) hr1 hd2 hg1)
  have hlt:(l.length:Int) < 3:=by omega
  clear hl1 hln hk hl hz hr hok hna hn HZL hib hg h0 hz0 hr0 h1 hz1 hr1 HC;generalize Sy.X a=xa at *;generalize Sy.P b2 d=pk at *;have HX:=hid (Bx.refl (w:=w) (cs:=#[.int .i64 42,.string ⟨nm.toArray⟩,.int .i64 n,.string ⟨t.toArray⟩,.slice (some ⟨b,o,none⟩) l.length c]));go_enter Tryz.func159,Tryz.ntmps159;go_wp2_with fail;have sm2:¬ 9223372036854775807 < 3+xa.length:=by omega
  have sm3:¬ 9223372036854775807 < 3+xa.length+1:=by omega
  have smb3:¬ 9223372036854775806 < 3+xa.length:=by omega
  have sm4:¬ 9223372036854775807 < 3+xa.length+1+pk.length:=by omega
  replace HX:=hid (HX.out.step ((Below.refl _ _).drew));have p0:=bx_five9 HX.out;have p1:=HK0.out _ HX.out.below;have p2:=HK1.out _ HX.out.below;have HS:=hid (And.intro p0.2.2.2.2 (And.intro p1.1 (And.intro p1.2.1 (And.intro p1.2.2.1 (And.intro p1.2.2.2.1 (And.intro p1.2.2.2.2.1 (And.intro p2.1 (And.intro p2.2.1 (And.intro p2.2.2.1 (And.intro p2.2.2.2.1 p2.2.2.2.2.1))))))))));clear p0 p1 p2;go_region_held3 (fun W=>W.cell? ⟨w.heap.size,4,none⟩=some (.slice (some ⟨b,o,none⟩) l.length c)/\W.cell? ⟨b,o,none⟩=some (.int .i64 a.op)/\W.cell? ⟨b,o+1,none⟩=some (.string ⟨a.nm.toArray⟩)/\W.cell? ⟨b,o+2,none⟩=some (.int .i64 a.n)/\W.cell? ⟨b,o+3,none⟩=some (.string ⟨a.t.toArray⟩)/\W.cell? ⟨b,o+4,none⟩=some (.slice A0 a.l.length c0)/\W.cell? ⟨b,o+5,none⟩=some (.int .i64 b2.op)/\W.cell? ⟨b,o+5+1,none⟩=some (.string ⟨b2.nm.toArray⟩)/\W.cell? ⟨b,o+5+2,none⟩=some (.int .i64 b2.n)/\W.cell? ⟨b,o+5+3,none⟩=some (.string ⟨b2.t.toArray⟩)/\W.cell? ⟨b,o+5+4,none⟩=some (.slice A1 b2.l.length c1))
   (first | exact HS.out | go_keep)
   (first
    | (go_at_call 43;(with_reducible refine(C0.out _ HX.out.below).mono ?_);rintro e w4 ⟨rfl,hb4⟩;replace HX:=hid (HX.out.step hb4);have p0:=bx_five9 HX.out;have p1:=HK0.out _ HX.out.below;have p2:=HK1.out _ HX.out.below;have HS:=hid (And.intro p0.2.2.2.2 (And.intro p1.1 (And.intro p1.2.1 (And.intro p1.2.2.1 (And.intro p1.2.2.2.1 (And.intro p1.2.2.2.2.1 (And.intro p2.1 (And.intro p2.2.1 (And.intro p2.2.2.1 (And.intro p2.2.2.2.1 p2.2.2.2.2.1))))))))));clear p0 p1 p2;clear hb4)
    | (go_at_call 68;(with_reducible refine(C1.out _ HX.out.below).mono ?_);rintro e w4 ⟨rfl,hb4⟩;replace HX:=hid (HX.out.step hb4);have p0:=bx_five9 HX.out;have p1:=HK0.out _ HX.out.below;have p2:=HK1.out _ HX.out.below;have HS:=hid (And.intro p0.2.2.2.2 (And.intro p1.1 (And.intro p1.2.1 (And.intro p1.2.2.1 (And.intro p1.2.2.2.1 (And.intro p1.2.2.2.2.1 (And.intro p2.1 (And.intro p2.2.1 (And.intro p2.2.2.1 (And.intro p2.2.2.2.1 p2.2.2.2.2.1))))))))));clear p0 p1 p2;clear hb4))
  go_wp2_with fail
  obtain⟨q0,q1,q2,q3,q4⟩:=bx_five9 HX.out;go_wp2_with fail;go_ret;exact⟨congrArg (fun z=>Ending.returned (Value.string z)) (by simp only [cat_mk,List.append_assoc,List.cons_append,List.nil_append]),HX.out.below⟩
 ·
  clear hif;have hln:l.length=3:=by rw [hl1];rfl
  have hlen0:0 < l.length:=by omega
  have hlen0i:(0:Int) < (l.length:Int):=by omega
  have h0:l[0]? = some a:=by rw [hl1];rfl
  have hz0:=HZL.out a (by rw [hl1];simp)
  have hlen1:1 < l.length:=by omega
  have hlen1i:(1:Int) < (l.length:Int):=by omega
  have h1:l[1]? = some b2:=by rw [hl1];rfl
  have hz1:=HZL.out b2 (by rw [hl1];simp)
  have hlen2:2 < l.length:=by omega
  have hlen2i:(2:Int) < (l.length:Int):=by omega
  have h2:l[2]? = some kc:=by rw [hl1];rfl
  have hz2:=HZL.out kc (by rw [hl1];simp)
  rw [Sy.P42y h0 h1 h2] at hl |-
  have hg:(Sy.X a).length<=1099511627776/\(Sy.P b2 d).length<=1099511627776/\(Sy.P kc d).length<=1099511627776:=by simp only [List.length_append,List.length_cons] at hl;omega
  obtain⟨hg0,hg1,hg2⟩:=id hg;obtain⟨b,o,rfl⟩:=kid_addr hk h0;obtain⟨A0,c0,HK0⟩:=kid_all (e:=o) hk h0 (by omega)
  obtain⟨A1,c1,HK1⟩:=kid_all (e:=o+5) hk h1 (by omega)
  obtain⟨A2,c2,HK2⟩:=kid_all (e:=o+10) hk h2 (by omega)
  have C0:=hid (fun W (hW:Below w.heap.size w W)=>rexpr_all _ a _ W S (Nat.le_refl _) hr0 (HK0.out W hW).2.2.2.2.2 hg0)
  have C1:=hid (fun W (hW:Below w.heap.size w W)=>rblock_n HE b2 _ d ib W S hib (HK1.out W hW).2.2.2.2.2 (Nat.le_succ_of_le hz1) hr1 hd2 hg1)
  have hlt:¬ (l.length:Int) < 3:=by omega
  rcases hr2 with hr2 | hr2
  ·
   have hcb:(kc.op==42)=false:=by rw [hr2.1];rfl
   have C2:=hid (fun W (hW:Below w.heap.size w W)=>rblock_n HE kc _ d ib W S hib (HK2.out W hW).2.2.2.2.2 (Nat.le_succ_of_le hz2) hr2.2 hd2 hg2)
   clear hl1 hln hk hl hz hr hok hna hn HZL hib hg h0 hz0 hr0 h1 hz1 hr1 h2 hz2 hr2 HC;generalize Sy.X a=xa at *;generalize Sy.P b2 d=pk at *;generalize Sy.P kc d=pc at *;have HX:=hid (Bx.refl (w:=w) (cs:=#[.int .i64 42,.string ⟨nm.toArray⟩,.int .i64 n,.string ⟨t.toArray⟩,.slice (some ⟨b,o,none⟩) l.length c]));go_enter Tryz.func159,Tryz.ntmps159;go_wp2_with fail;have sm2:¬ 9223372036854775807 < 3+xa.length:=by omega
   have sm3:¬ 9223372036854775807 < 3+xa.length+1:=by omega
   have smb3:¬ 9223372036854775806 < 3+xa.length:=by omega
   have sm4:¬ 9223372036854775807 < 3+xa.length+1+pk.length:=by omega
   have sm5:¬ 9223372036854775807 < 3+xa.length+1+pk.length+6:=by omega
   have smb5:¬ 9223372036854775801 < 3+xa.length+1+pk.length:=by omega
   have sm6:¬ 9223372036854775807 < 3+xa.length+1+pk.length+6+pc.length:=by omega
   replace HX:=hid (HX.out.step ((Below.refl _ _).drew));have p0:=bx_five9 HX.out;have p1:=HK0.out _ HX.out.below;have p2:=HK1.out _ HX.out.below;have HS:=hid (And.intro p0.2.2.2.2 (And.intro p1.1 (And.intro p1.2.1 (And.intro p1.2.2.1 (And.intro p1.2.2.2.1 (And.intro p1.2.2.2.2.1 (And.intro p2.1 (And.intro p2.2.1 (And.intro p2.2.2.1 (And.intro p2.2.2.2.1 p2.2.2.2.2.1))))))))));clear p0 p1 p2;go_region_held3 (fun W=>W.cell? ⟨w.heap.size,4,none⟩=some (.slice (some ⟨b,o,none⟩) l.length c)/\W.cell? ⟨b,o,none⟩=some (.int .i64 a.op)/\W.cell? ⟨b,o+1,none⟩=some (.string ⟨a.nm.toArray⟩)/\W.cell? ⟨b,o+2,none⟩=some (.int .i64 a.n)/\W.cell? ⟨b,o+3,none⟩=some (.string ⟨a.t.toArray⟩)/\W.cell? ⟨b,o+4,none⟩=some (.slice A0 a.l.length c0)/\W.cell? ⟨b,o+5,none⟩=some (.int .i64 b2.op)/\W.cell? ⟨b,o+5+1,none⟩=some (.string ⟨b2.nm.toArray⟩)/\W.cell? ⟨b,o+5+2,none⟩=some (.int .i64 b2.n)/\W.cell? ⟨b,o+5+3,none⟩=some (.string ⟨b2.t.toArray⟩)/\W.cell? ⟨b,o+5+4,none⟩=some (.slice A1 b2.l.length c1))
    (first | exact HS.out | go_keep)
    (first
     | (go_at_call 43;(with_reducible refine(C0.out _ HX.out.below).mono ?_);rintro e w4 ⟨rfl,hb4⟩;replace HX:=hid (HX.out.step hb4);have p0:=bx_five9 HX.out;have p1:=HK0.out _ HX.out.below;have p2:=HK1.out _ HX.out.below;have HS:=hid (And.intro p0.2.2.2.2 (And.intro p1.1 (And.intro p1.2.1 (And.intro p1.2.2.1 (And.intro p1.2.2.2.1 (And.intro p1.2.2.2.2.1 (And.intro p2.1 (And.intro p2.2.1 (And.intro p2.2.2.1 (And.intro p2.2.2.2.1 p2.2.2.2.2.1))))))))));clear p0 p1 p2;clear hb4)
     | (go_at_call 68;(with_reducible refine(C1.out _ HX.out.below).mono ?_);rintro e w4 ⟨rfl,hb4⟩;replace HX:=hid (HX.out.step hb4);have p0:=bx_five9 HX.out;have p1:=HK0.out _ HX.out.below;have p2:=HK1.out _ HX.out.below;have HS:=hid (And.intro p0.2.2.2.2 (And.intro p1.1 (And.intro p1.2.1 (And.intro p1.2.2.1 (And.intro p1.2.2.2.1 (And.intro p1.2.2.2.2.1 (And.intro p2.1 (And.intro p2.2.1 (And.intro p2.2.2.1 (And.intro p2.2.2.2.1 p2.2.2.2.2.1))))))))));clear p0 p1 p2;clear hb4))
   obtain⟨q0,q1,q2,q3,q4⟩:=bx_five9 HX.out;obtain⟨k20,k21,k22,k23,k24,_⟩:=HK2.out _ HX.out.below;go_wp2_with fail;refine(C2.out _ HX.out.below).mono ?_;rintro e w4 ⟨rfl,hb4⟩;replace HX:=hid (HX.out.step hb4);clear hb4;go_wp2_with fail;go_ret;exact⟨congrArg (fun z=>Ending.returned (Value.string z)) (by simp only [cat_mk,List.append_assoc,List.cons_append,List.nil_append]),HX.out.below⟩
  ·
   have hcb:(kc.op==42)=true:=by rw [hr2.1];rfl
   have C2:=hid (fun W (hW:Below w.heap.size w W)=>HC kc _ d ib W S hib hz2 hr2.2 hr2.1 (by omega) (HK2.out W hW).2.2.2.2.2 hg2)
   clear hl1 hln hk hl hz hr hok hna hn HZL hib hg h0 hz0 hr0 h1 hz1 hr1 h2 hz2 hr2 HC;generalize Sy.X a=xa at *;generalize Sy.P b2 d=pk at *;generalize Sy.P kc d=pc at *;have HX:=hid (Bx.refl (w:=w) (cs:=#[.int .i64 42,.string ⟨nm.toArray⟩,.int .i64 n,.string ⟨t.toArray⟩,.slice (some ⟨b,o,none⟩) l.length c]));go_enter Tryz.func159,Tryz.ntmps159;go_wp2_with fail;have sm2:¬ 9223372036854775807 < 3+xa.length:=by omega
   have sm3:¬ 9223372036854775807 < 3+xa.length+1:=by omega
   have smb3:¬ 9223372036854775806 < 3+xa.length:=by omega
   have sm4:¬ 9223372036854775807 < 3+xa.length+1+pk.length:=by omega
   have sm5:¬ 9223372036854775807 < 3+xa.length+1+pk.length+6:=by omega
   have smb5:¬ 9223372036854775801 < 3+xa.length+1+pk.length:=by omega
   have sm6:¬ 9223372036854775807 < 3+xa.length+1+pk.length+6+pc.length:=by omega
   replace HX:=hid (HX.out.step ((Below.refl _ _).drew));have p0:=bx_five9 HX.out;have p1:=HK0.out _ HX.out.below;have p2:=HK1.out _ HX.out.below;have HS:=hid (And.intro p0.2.2.2.2 (And.intro p1.1 (And.intro p1.2.1 (And.intro p1.2.2.1 (And.intro p1.2.2.2.1 (And.intro p1.2.2.2.2.1 (And.intro p2.1 (And.intro p2.2.1 (And.intro p2.2.2.1 (And.intro p2.2.2.2.1 p2.2.2.2.2.1))))))))));clear p0 p1 p2;go_region_held3 (fun W=>W.cell? ⟨w.heap.size,4,none⟩=some (.slice (some ⟨b,o,none⟩) l.length c)/\W.cell? ⟨b,o,none⟩=some (.int .i64 a.op)/\W.cell? ⟨b,o+1,none⟩=some (.string ⟨a.nm.toArray⟩)/\W.cell? ⟨b,o+2,none⟩=some (.int .i64 a.n)/\W.cell? ⟨b,o+3,none⟩=some (.string ⟨a.t.toArray⟩)/\W.cell? ⟨b,o+4,none⟩=some (.slice A0 a.l.length c0)/\W.cell? ⟨b,o+5,none⟩=some (.int .i64 b2.op)/\W.cell? ⟨b,o+5+1,none⟩=some (.string ⟨b2.nm.toArray⟩)/\W.cell? ⟨b,o+5+2,none⟩=some (.int .i64 b2.n)/\W.cell? ⟨b,o+5+3,none⟩=some (.string ⟨b2.t.toArray⟩)/\W.cell? ⟨b,o+5+4,none⟩=some (.slice A1 b2.l.length c1))
    (first | exact HS.out | go_keep)
    (first
     | (go_at_call 43;(with_reducible refine(C0.out _ HX.out.below).mono ?_);rintro e w4 ⟨rfl,hb4⟩;replace HX:=hid (HX.out.step hb4);have p0:=bx_five9 HX.out;have p1:=HK0.out _ HX.out.below;have p2:=HK1.out _ HX.out.below;have HS:=hid (And.intro p0.2.2.2.2 (And.intro p1.1 (And.intro p1.2.1 (And.intro p1.2.2.1 (And.intro p1.2.2.2.1 (And.intro p1.2.2.2.2.1 (And.intro p2.1 (And.intro p2.2.1 (And.intro p2.2.2.1 (And.intro p2.2.2.2.1 p2.2.2.2.2.1))))))))));clear p0 p1 p2;clear hb4)
     | (go_at_call 68;(with_reducible refine(C1.out _ HX.out.below).mono ?_);rintro e w4 ⟨rfl,hb4⟩;replace HX:=hid (HX.out.step hb4);have p0:=bx_five9 HX.out;have p1:=HK0.out _ HX.out.below;have p2:=HK1.out _ HX.out.below;have HS:=hid (And.intro p0.2.2.2.2 (And.intro p1.1 (And.intro p1.2.1 (And.intro p1.2.2.1 (And.intro p1.2.2.2.1 (And.intro p1.2.2.2.2.1 (And.intro p2.1 (And.intro p2.2.1 (And.intro p2.2.2.1 (And.intro p2.2.2.2.1 p2.2.2.2.2.1))))))))));clear p0 p1 p2;clear hb4))
   obtain⟨q0,q1,q2,q3,q4⟩:=bx_five9 HX.out;obtain⟨k20,k21,k22,k23,k24,_⟩:=HK2.out _ HX.out.below;go_wp2_with fail;refine(C2.out _ HX.out.below).mono ?_;rintro e w4 ⟨rfl,hb4⟩;replace HX:=hid (HX.out.step hb4);clear hb4;go_wp2_with fail;go_ret;exact⟨congrArg (fun z=>Ending.returned (Value.string z)) (by simp only [cat_mk,List.append_assoc,List.cons_append,List.nil_append]),HX.out.below⟩
theorem rstmt_step {m:Nat} (HE:RS9 m) (HC:RC9 (m+1)):RS9 (m+1):=by
 intro v va d ib w S hib hz hr hd hna hl;obtain⟨op,nm,n,t,l⟩:=v;obtain⟨A,c,rfl,hok,hk⟩:=hna.open_;simp only [Sy.N.op,Sy.N.nm,Sy.N.n,Sy.N.t,Sy.N.l] at hok hk |-
 have hn:l.length<=4398046511104:=by have:=hok.2.2.2.2.2.2;omega
 have HZL:Hid (∀ v∈l,Sy.N.size v<=m):=fun v hv=>by
  have h1:=Sy.N.size_mem hv;rw [Sy.N.size_mk] at hz;omega
 have hd2:d+2+4 * m<=2000000000:=by omega
 obtain⟨g1,g2,g50,g51,ix,iif,iwh,ire,itr,isa,iun,ise⟩:=Sy.rS_inv hr;by_cases z40:op=40
 ·
  subst z40;obtain⟨a,hl1,hr0⟩:=ix (by omega)
  have hln:l.length=1:=by rw [hl1];rfl
  have hlen0:0 < l.length:=by omega
  have hlen0i:(0:Int) < (l.length:Int):=by omega
  have h0:l[0]? = some a:=by rw [hl1];rfl
  have hz0:=HZL.out a (by rw [hl1];simp)
  rw [Sy.P40 h0] at hl |-
  have hg:(Sy.X a).length<=1099511627776/\(nm).length<=1099511627776:=by simp only [List.length_append,List.length_cons] at hl;omega
  obtain⟨hg0,hg1⟩:=id hg;obtain⟨b,o,rfl⟩:=kid_addr hk h0;obtain⟨A0,c0,HK0⟩:=kid_all (e:=o) hk h0 (by omega)
  have C0:=hid (fun W (hW:Below w.heap.size w W)=>rexpr_all _ a _ W S (Nat.le_refl _) hr0 (HK0.out W hW).2.2.2.2.2 hg0)
  clear hl1 hln hk hl hz hr hok hna hn HZL hib hg h0 hz0 hr0 g1 g2 g50 g51 ix iif iwh ire itr isa iun ise HE HC hd2;generalize Sy.X a=xa at *;have sm2:¬ 9223372036854775807 < 4+nm.length:=by omega
  have sm3:¬ 9223372036854775807 < 4+nm.length+3:=by omega
  have smb3:¬ 9223372036854775804 < 4+nm.length:=by omega
  have sm4:¬ 9223372036854775807 < 4+nm.length+3+xa.length:=by omega
  have sm5:¬ 9223372036854775807 < 4+nm.length+3+xa.length+1:=by omega
  have smb5:¬ 9223372036854775806 < 4+nm.length+3+xa.length:=by omega
  have HX:=hid (Bx.refl (w:=w) (cs:=#[.int .i64 40,.string ⟨nm.toArray⟩,.int .i64 n,.string ⟨t.toArray⟩,.slice (some ⟨b,o,none⟩) l.length c]));go_enter Tryz.func117,Tryz.ntmps117;go_wp2_with fail;replace HX:=hid (HX.out.step ((Below.refl _ _).drew));have p0:=bx_five9 HX.out;have p1:=HK0.out _ HX.out.below;have HS:=hid (And.intro p0.2.1 (And.intro p0.2.2.2.2 (And.intro p1.1 (And.intro p1.2.1 (And.intro p1.2.2.1 (And.intro p1.2.2.2.1 p1.2.2.2.2.1))))));clear p0 p1;go_region_held3 (fun W=>W.cell? ⟨w.heap.size,1,none⟩=some (.string ⟨nm.toArray⟩)/\W.cell? ⟨w.heap.size,4,none⟩=some (.slice (some ⟨b,o,none⟩) l.length c)/\W.cell? ⟨b,o,none⟩=some (.int .i64 a.op)/\W.cell? ⟨b,o+1,none⟩=some (.string ⟨a.nm.toArray⟩)/\W.cell? ⟨b,o+2,none⟩=some (.int .i64 a.n)/\W.cell? ⟨b,o+3,none⟩=some (.string ⟨a.t.toArray⟩)/\W.cell? ⟨b,o+4,none⟩=some (.slice A0 a.l.length c0))
   (first | exact HS.out | go_keep)
   (first
    | (go_at_call 43;(with_reducible refine(C0.out _ HX.out.below).mono ?_);rintro e w4 ⟨rfl,hb4⟩;replace HX:=hid (HX.out.step hb4);have p0:=bx_five9 HX.out;have p1:=HK0.out _ HX.out.below;have HS:=hid (And.intro p0.2.1 (And.intro p0.2.2.2.2 (And.intro p1.1 (And.intro p1.2.1 (And.intro p1.2.2.1 (And.intro p1.2.2.2.1 p1.2.2.2.2.1))))));clear p0 p1;clear hb4))
  go_wp2_with fail
  go_ret;exact⟨congrArg (fun z=>Ending.returned (Value.string z)) (by simp only [cat_mk,List.append_assoc,List.cons_append,List.nil_append]),HX.out.below⟩
 by_cases z41:op=41
 ·
  subst z41;obtain⟨a,hl1,hr0⟩:=ix (by omega)
  have hln:l.length=1:=by rw [hl1];rfl
  have hlen0:0 < l.length:=by omega
  have hlen0i:(0:Int) < (l.length:Int):=by omega
  have h0:l[0]? = some a:=by rw [hl1];rfl
  have hz0:=HZL.out a (by rw [hl1];simp)
  rw [Sy.P41 h0] at hl |-
  have hg:(Sy.X a).length<=1099511627776/\(nm).length<=1099511627776:=by simp only [List.length_append,List.length_cons] at hl;omega
  obtain⟨hg0,hg1⟩:=id hg;obtain⟨b,o,rfl⟩:=kid_addr hk h0;obtain⟨A0,c0,HK0⟩:=kid_all (e:=o) hk h0 (by omega)
  have C0:=hid (fun W (hW:Below w.heap.size w W)=>rexpr_all _ a _ W S (Nat.le_refl _) hr0 (HK0.out W hW).2.2.2.2.2 hg0)
  clear hl1 hln hk hl hz hr hok hna hn HZL hib hg h0 hz0 hr0 g1 g2 g50 g51 ix iif iwh ire itr isa iun ise z40 HE HC hd2;generalize Sy.X a=xa at *;have sm2:¬ 9223372036854775807 < nm.length+3:=by omega
  have smb2:¬ 9223372036854775804 < nm.length:=by omega
  have sm3:¬ 9223372036854775807 < nm.length+3+xa.length:=by omega
  have sm4:¬ 9223372036854775807 < nm.length+3+xa.length+1:=by omega
  have smb4:¬ 9223372036854775806 < nm.length+3+xa.length:=by omega
  have HX:=hid (Bx.refl (w:=w) (cs:=#[.int .i64 41,.string ⟨nm.toArray⟩,.int .i64 n,.string ⟨t.toArray⟩,.slice (some ⟨b,o,none⟩) l.length c]));go_enter Tryz.func117,Tryz.ntmps117;go_wp2_with fail;replace HX:=hid (HX.out.step ((Below.refl _ _).drew));have p0:=bx_five9 HX.out;have p1:=HK0.out _ HX.out.below;have HS:=hid (And.intro p0.2.1 (And.intro p0.2.2.2.2 (And.intro p1.1 (And.intro p1.2.1 (And.intro p1.2.2.1 (And.intro p1.2.2.2.1 p1.2.2.2.2.1))))));clear p0 p1;go_region_held3 (fun W=>W.cell? ⟨w.heap.size,1,none⟩=some (.string ⟨nm.toArray⟩)/\W.cell? ⟨w.heap.size,4,none⟩=some (.slice (some ⟨b,o,none⟩) l.length c)/\W.cell? ⟨b,o,none⟩=some (.int .i64 a.op)/\W.cell? ⟨b,o+1,none⟩=some (.string ⟨a.nm.toArray⟩)/\W.cell? ⟨b,o+2,none⟩=some (.int .i64 a.n)/\W.cell? ⟨b,o+3,none⟩=some (.string ⟨a.t.toArray⟩)/\W.cell? ⟨b,o+4,none⟩=some (.slice A0 a.l.length c0))
   (first | exact HS.out | go_keep)
   (first
    | (go_at_call 43;(with_reducible refine(C0.out _ HX.out.below).mono ?_);rintro e w4 ⟨rfl,hb4⟩;replace HX:=hid (HX.out.step hb4);have p0:=bx_five9 HX.out;have p1:=HK0.out _ HX.out.below;have HS:=hid (And.intro p0.2.1 (And.intro p0.2.2.2.2 (And.intro p1.1 (And.intro p1.2.1 (And.intro p1.2.2.1 (And.intro p1.2.2.2.1 p1.2.2.2.2.1))))));clear p0 p1;clear hb4))
  go_wp2_with fail
  go_ret;exact⟨congrArg (fun z=>Ending.returned (Value.string z)) (by simp only [cat_mk,List.append_assoc,List.cons_append,List.nil_append]),HX.out.below⟩
 by_cases z42:op=42
 ·
  subst z42;have CC:=hid (fun W (hW:Below w.heap.size w W)=>HC (.mk 42 nm n t l) _ d ib W S hib hz hr rfl hd (hna.below hW) hl)
  simp only [Sy.N.op,Sy.N.nm,Sy.N.n,Sy.N.t,Sy.N.l] at CC;generalize Sy.P (.mk 42 nm n t l) d=res at *;clear hk hl hz hr hok hna hn HZL hib HE HC g1 g2 g50 g51 ix iif iwh ire itr isa iun ise z40 z41;have HX:=hid (Bx.refl (w:=w) (cs:=#[.int .i64 42,.string ⟨nm.toArray⟩,.int .i64 n,.string ⟨t.toArray⟩,.slice A l.length c]));go_enter Tryz.func117,Tryz.ntmps117;go_wp2_with fail;refine(CC.out _ HX.out.below).mono ?_;rintro e w4 ⟨rfl,hb4⟩;replace HX:=hid (HX.out.step hb4);clear hb4;go_wp2_with fail;go_ret;exact⟨rfl,HX.out.below⟩
 by_cases z43:op=43
 ·
  subst z43;obtain⟨a,b2,hl1,hr0,hr1⟩:=iwh rfl;have hln:l.length=2:=by rw [hl1];rfl
  have hlen0:0 < l.length:=by omega
  have hlen0i:(0:Int) < (l.length:Int):=by omega
  have h0:l[0]? = some a:=by rw [hl1];rfl
  have hz0:=HZL.out a (by rw [hl1];simp)
  have hlen1:1 < l.length:=by omega
  have hlen1i:(1:Int) < (l.length:Int):=by omega
  have h1:l[1]? = some b2:=by rw [hl1];rfl
  have hz1:=HZL.out b2 (by rw [hl1];simp)
  rw [Sy.P43 h0 h1] at hl |-
  have hg:(Sy.X a).length<=1099511627776/\(Sy.P b2 d).length<=1099511627776:=by simp only [List.length_append,List.length_cons] at hl;omega
  obtain⟨hg0,hg1⟩:=id hg;obtain⟨b,o,rfl⟩:=kid_addr hk h0;obtain⟨A0,c0,HK0⟩:=kid_all (e:=o) hk h0 (by omega)
  obtain⟨A1,c1,HK1⟩:=kid_all (e:=o+5) hk h1 (by omega)
  have C0:=hid (fun W (hW:Below w.heap.size w W)=>rexpr_all _ a _ W S (Nat.le_refl _) hr0 (HK0.out W hW).2.2.2.2.2 hg0)
  have C1:=hid (fun W (hW:Below w.heap.size w W)=>rblock_n HE b2 _ d ib W S hib (HK1.out W hW).2.2.2.2.2 (Nat.le_succ_of_le hz1) hr1 hd2 hg1)
  clear hl1 hln hk hl hz hr hok hna hn HZL hib hg h0 hz0 hr0 h1 hz1 hr1 g1 g2 g50 g51 ix iif iwh ire itr isa iun ise z40 z41 z42 HE HC hd2;generalize Sy.X a=xa at *;generalize Sy.P b2 d=pk at *;have sm2:¬ 9223372036854775807 < 6+xa.length:=by omega
  have sm3:¬ 9223372036854775807 < 6+xa.length+1:=by omega
  have smb3:¬ 9223372036854775806 < 6+xa.length:=by omega
  have sm4:¬ 9223372036854775807 < 6+xa.length+1+pk.length:=by omega
  have HX:=hid (Bx.refl (w:=w) (cs:=#[.int .i64 43,.string ⟨nm.toArray⟩,.int .i64 n,.string ⟨t.toArray⟩,.slice (some ⟨b,o,none⟩) l.length c]));go_enter Tryz.func117,Tryz.ntmps117;go_wp2_with fail;replace HX:=hid (HX.out.step ((Below.refl _ _).drew));have p0:=bx_five9 HX.out;have p1:=HK0.out _ HX.out.below;have p2:=HK1.out _ HX.out.below;have HS:=hid (And.intro p0.2.2.2.2 (And.intro p1.1 (And.intro p1.2.1 (And.intro p1.2.2.1 (And.intro p1.2.2.2.1 (And.intro p1.2.2.2.2.1 (And.intro p2.1 (And.intro p2.2.1 (And.intro p2.2.2.1 (And.intro p2.2.2.2.1 p2.2.2.2.2.1))))))))));clear p0 p1 p2;go_region_held3 (fun W=>W.cell? ⟨w.heap.size,4,none⟩=some (.slice (some ⟨b,o,none⟩) l.length c)/\W.cell? ⟨b,o,none⟩=some (.int .i64 a.op)/\W.cell? ⟨b,o+1,none⟩=some (.string ⟨a.nm.toArray⟩)/\W.cell? ⟨b,o+2,none⟩=some (.int .i64 a.n)/\W.cell? ⟨b,o+3,none⟩=some (.string ⟨a.t.toArray⟩)/\W.cell? ⟨b,o+4,none⟩=some (.slice A0 a.l.length c0)/\W.cell? ⟨b,o+5,none⟩=some (.int .i64 b2.op)/\W.cell? ⟨b,o+5+1,none⟩=some (.string ⟨b2.nm.toArray⟩)/\W.cell? ⟨b,o+5+2,none⟩=some (.int .i64 b2.n)/\W.cell? ⟨b,o+5+3,none⟩=some (.string ⟨b2.t.toArray⟩)/\W.cell? ⟨b,o+5+4,none⟩=some (.slice A1 b2.l.length c1))
   (first | exact HS.out | go_keep)
   (first
    | (go_at_call 43;(with_reducible refine(C0.out _ HX.out.below).mono ?_);rintro e w4 ⟨rfl,hb4⟩;replace HX:=hid (HX.out.step hb4);have p0:=bx_five9 HX.out;have p1:=HK0.out _ HX.out.below;have p2:=HK1.out _ HX.out.below;have HS:=hid (And.intro p0.2.2.2.2 (And.intro p1.1 (And.intro p1.2.1 (And.intro p1.2.2.1 (And.intro p1.2.2.2.1 (And.intro p1.2.2.2.2.1 (And.intro p2.1 (And.intro p2.2.1 (And.intro p2.2.2.1 (And.intro p2.2.2.2.1 p2.2.2.2.2.1))))))))));clear p0 p1 p2;clear hb4)
    | (go_at_call 68;(with_reducible refine(C1.out _ HX.out.below).mono ?_);rintro e w4 ⟨rfl,hb4⟩;replace HX:=hid (HX.out.step hb4);have p0:=bx_five9 HX.out;have p1:=HK0.out _ HX.out.below;have p2:=HK1.out _ HX.out.below;have HS:=hid (And.intro p0.2.2.2.2 (And.intro p1.1 (And.intro p1.2.1 (And.intro p1.2.2.1 (And.intro p1.2.2.2.1 (And.intro p1.2.2.2.2.1 (And.intro p2.1 (And.intro p2.2.1 (And.intro p2.2.2.1 (And.intro p2.2.2.2.1 p2.2.2.2.2.1))))))))));clear p0 p1 p2;clear hb4))
  go_wp2_with fail
  go_ret;exact⟨congrArg (fun z=>Ending.returned (Value.string z)) (by simp only [cat_mk,List.append_assoc,List.cons_append,List.nil_append]),HX.out.below⟩
 by_cases z44:op=44
 ·
  subst z44;rcases ire rfl with hl1 | ⟨a,hl1,hr0⟩
  ·
   rw [Sy.P44n hl1];have hl0:((l.length:Int)==0)=true:=by rw [hl1];rfl
   have HN0:=hid hl1;clear hl1 hk hl hz hr hok hna hn HZL hib HE HC hd2 g1 g2 g50 g51 ix iif iwh ire itr isa iun ise z40 z41 z42 z43;have HX:=hid (Bx.refl (w:=w) (cs:=#[.int .i64 44,.string ⟨nm.toArray⟩,.int .i64 n,.string ⟨t.toArray⟩,.slice A l.length c]));go_enter Tryz.func117,Tryz.ntmps117;go_wp2_with fail;go_ret;exact⟨rfl,HX.out.below⟩
  ·
   rw [Sy.P44y (a:=a) (by rw [hl1];rfl)] at hl |-
   have hln:l.length=1:=by rw [hl1];rfl
   have hlen0:0 < l.length:=by omega
   have hlen0i:(0:Int) < (l.length:Int):=by omega
   have h0:l[0]? = some a:=by rw [hl1];rfl
   have hz0:=HZL.out a (by rw [hl1];simp)
   have hg:(Sy.X a).length<=1099511627776:=by simp only [List.length_append,List.length_cons] at hl;omega
   have hg0:=hg;obtain⟨b,o,rfl⟩:=kid_addr hk h0;obtain⟨A0,c0,HK0⟩:=kid_all (e:=o) hk h0 (by omega)
   have C0:=hid (fun W (hW:Below w.heap.size w W)=>rexpr_all _ a _ W S (Nat.le_refl _) hr0 (HK0.out W hW).2.2.2.2.2 hg0)
   have hl0:((l.length:Int)==0)=false:=by rw [hln];rfl
   have hlne:¬ l=[]:=by intro e;subst e;simp at hln
   have hlne2:¬ l.length=0:=by omega
   clear hl1 hln hk hl hz hr hok hna hn HZL hib hg h0 hz0 hr0 g1 g2 g50 g51 ix iif iwh ire itr isa iun ise z40 z41 z42 z43 HE HC hd2;generalize Sy.X a=xa at *;have HX:=hid (Bx.refl (w:=w) (cs:=#[.int .i64 44,.string ⟨nm.toArray⟩,.int .i64 n,.string ⟨t.toArray⟩,.slice (some ⟨b,o,none⟩) l.length c]));go_enter Tryz.func117,Tryz.ntmps117;obtain⟨q0,q1,q2,q3,q4⟩:=bx_five9 HX.out;obtain⟨k00,k01,k02,k03,k04,_⟩:=HK0.out _ HX.out.below;go_wp2_with fail
   skip
   refine(C0.out _ HX.out.below).mono ?_;rintro e w4 ⟨rfl,hb4⟩;replace HX:=hid (HX.out.step hb4);clear hb4;clear q0 q1 q2 q3 q4 k00 k01 k02 k03 k04;go_wp2_with fail;go_ret;exact⟨congrArg (fun z=>Ending.returned (Value.string z)) (by simp only [cat_mk,List.append_assoc,List.cons_append,List.nil_append]),HX.out.below⟩
 by_cases z45:op=45
 ·
  subst z45;obtain⟨a,hl1,hr0⟩:=ix (by omega)
  have hln:l.length=1:=by rw [hl1];rfl
  have hlen0:0 < l.length:=by omega
  have hlen0i:(0:Int) < (l.length:Int):=by omega
  have h0:l[0]? = some a:=by rw [hl1];rfl
  have hz0:=HZL.out a (by rw [hl1];simp)
  rw [Sy.P45 h0] at hl |-
  have hg:(Sy.X a).length<=1099511627776:=by simp only [List.length_append,List.length_cons] at hl;omega
  have hg0:=hg;obtain⟨b,o,rfl⟩:=kid_addr hk h0;obtain⟨A0,c0,HK0⟩:=kid_all (e:=o) hk h0 (by omega)
  have C0:=hid (fun W (hW:Below w.heap.size w W)=>rexpr_all _ a _ W S (Nat.le_refl _) hr0 (HK0.out W hW).2.2.2.2.2 hg0)
  clear hl1 hln hk hl hz hr hok hna hn HZL hib hg h0 hz0 hr0 g1 g2 g50 g51 ix iif iwh ire itr isa iun ise z40 z41 z42 z43 z44 HE HC hd2;generalize Sy.X a=xa at *;have HX:=hid (Bx.refl (w:=w) (cs:=#[.int .i64 45,.string ⟨nm.toArray⟩,.int .i64 n,.string ⟨t.toArray⟩,.slice (some ⟨b,o,none⟩) l.length c]));go_enter Tryz.func117,Tryz.ntmps117;obtain⟨q0,q1,q2,q3,q4⟩:=bx_five9 HX.out;obtain⟨k00,k01,k02,k03,k04,_⟩:=HK0.out _ HX.out.below;go_wp2_with fail;refine(C0.out _ HX.out.below).mono ?_;rintro e w4 ⟨rfl,hb4⟩;replace HX:=hid (HX.out.step hb4);clear hb4;clear q0 q1 q2 q3 q4 k00 k01 k02 k03 k04;go_wp2_with fail;go_ret;exact⟨congrArg (fun z=>Ending.returned (Value.string z)) (by simp only [cat_mk,List.append_assoc,List.cons_append,List.nil_append]),HX.out.below⟩
 by_cases z46:op=46
 ·
  subst z46;obtain⟨a,b2,hl1,hr0,hr1⟩:=itr rfl;have hln:l.length=2:=by rw [hl1];rfl
  have hlen0:0 < l.length:=by omega
  have hlen0i:(0:Int) < (l.length:Int):=by omega
  have h0:l[0]? = some a:=by rw [hl1];rfl
  have hz0:=HZL.out a (by rw [hl1];simp)
  have hlen1:1 < l.length:=by omega
  have hlen1i:(1:Int) < (l.length:Int):=by omega
  have h1:l[1]? = some b2:=by rw [hl1];rfl
  have hz1:=HZL.out b2 (by rw [hl1];simp)
  rw [Sy.P46 h0 h1] at hl |-
  have hg:(Sy.P a d).length<=1099511627776/\(nm).length<=1099511627776/\(Sy.P b2 d).length<=1099511627776:=by simp only [List.length_append,List.length_cons] at hl;omega
  obtain⟨hg0,hg1,hg2⟩:=id hg;obtain⟨b,o,rfl⟩:=kid_addr hk h0;obtain⟨A0,c0,HK0⟩:=kid_all (e:=o) hk h0 (by omega)
  obtain⟨A1,c1,HK1⟩:=kid_all (e:=o+5) hk h1 (by omega)
  have C0:=hid (fun W (hW:Below w.heap.size w W)=>rblock_n HE a _ d ib W S hib (HK0.out W hW).2.2.2.2.2 (Nat.le_succ_of_le hz0) hr0 hd2 hg0)
  have C1:=hid (fun W (hW:Below w.heap.size w W)=>rblock_n HE b2 _ d ib W S hib (HK1.out W hW).2.2.2.2.2 (Nat.le_succ_of_le hz1) hr1 hd2 hg2)
  clear hl1 hln hk hl hz hr hok hna hn HZL hib hg h0 hz0 hr0 h1 hz1 hr1 g1 g2 g50 g51 ix iif iwh ire itr isa iun ise z40 z41 z42 z43 z44 z45 HE HC hd2;generalize Sy.P a d=pa at *;generalize Sy.P b2 d=pk at *;have sm2:¬ 9223372036854775807 < 4+pa.length:=by omega
  have sm3:¬ 9223372036854775807 < 4+pa.length+7:=by omega
  have smb3:¬ 9223372036854775800 < 4+pa.length:=by omega
  have sm4:¬ 9223372036854775807 < 4+pa.length+7+nm.length:=by omega
  have sm5:¬ 9223372036854775807 < 4+pa.length+7+nm.length+1:=by omega
  have smb5:¬ 9223372036854775806 < 4+pa.length+7+nm.length:=by omega
  have sm6:¬ 9223372036854775807 < 4+pa.length+7+nm.length+1+pk.length:=by omega
  have HX:=hid (Bx.refl (w:=w) (cs:=#[.int .i64 46,.string ⟨nm.toArray⟩,.int .i64 n,.string ⟨t.toArray⟩,.slice (some ⟨b,o,none⟩) l.length c]));go_enter Tryz.func117,Tryz.ntmps117;go_wp2_with fail;replace HX:=hid (HX.out.step ((Below.refl _ _).drew));have p0:=bx_five9 HX.out;have p1:=HK0.out _ HX.out.below;have p2:=HK1.out _ HX.out.below;have HS:=hid (And.intro p0.2.1 (And.intro p0.2.2.2.2 (And.intro p1.1 (And.intro p1.2.1 (And.intro p1.2.2.1 (And.intro p1.2.2.2.1 (And.intro p1.2.2.2.2.1 (And.intro p2.1 (And.intro p2.2.1 (And.intro p2.2.2.1 (And.intro p2.2.2.2.1 p2.2.2.2.2.1)))))))))));clear p0 p1 p2;go_region_held3 (fun W=>W.cell? ⟨w.heap.size,1,none⟩=some (.string ⟨nm.toArray⟩)/\W.cell? ⟨w.heap.size,4,none⟩=some (.slice (some ⟨b,o,none⟩) l.length c)/\W.cell? ⟨b,o,none⟩=some (.int .i64 a.op)/\W.cell? ⟨b,o+1,none⟩=some (.string ⟨a.nm.toArray⟩)/\W.cell? ⟨b,o+2,none⟩=some (.int .i64 a.n)/\W.cell? ⟨b,o+3,none⟩=some (.string ⟨a.t.toArray⟩)/\W.cell? ⟨b,o+4,none⟩=some (.slice A0 a.l.length c0)/\W.cell? ⟨b,o+5,none⟩=some (.int .i64 b2.op)/\W.cell? ⟨b,o+5+1,none⟩=some (.string ⟨b2.nm.toArray⟩)/\W.cell? ⟨b,o+5+2,none⟩=some (.int .i64 b2.n)/\W.cell? ⟨b,o+5+3,none⟩=some (.string ⟨b2.t.toArray⟩)/\W.cell? ⟨b,o+5+4,none⟩=some (.slice A1 b2.l.length c1))
   (first | exact HS.out | go_keep)
   (first
    | (go_at_call 68;(with_reducible refine(C0.out _ HX.out.below).mono ?_);rintro e w4 ⟨rfl,hb4⟩;replace HX:=hid (HX.out.step hb4);have p0:=bx_five9 HX.out;have p1:=HK0.out _ HX.out.below;have p2:=HK1.out _ HX.out.below;have HS:=hid (And.intro p0.2.1 (And.intro p0.2.2.2.2 (And.intro p1.1 (And.intro p1.2.1 (And.intro p1.2.2.1 (And.intro p1.2.2.2.1 (And.intro p1.2.2.2.2.1 (And.intro p2.1 (And.intro p2.2.1 (And.intro p2.2.2.1 (And.intro p2.2.2.2.1 p2.2.2.2.2.1)))))))))));clear p0 p1 p2;clear hb4)
    | (go_at_call 68;(with_reducible refine(C1.out _ HX.out.below).mono ?_);rintro e w4 ⟨rfl,hb4⟩;replace HX:=hid (HX.out.step hb4);have p0:=bx_five9 HX.out;have p1:=HK0.out _ HX.out.below;have p2:=HK1.out _ HX.out.below;have HS:=hid (And.intro p0.2.1 (And.intro p0.2.2.2.2 (And.intro p1.1 (And.intro p1.2.1 (And.intro p1.2.2.1 (And.intro p1.2.2.2.1 (And.intro p1.2.2.2.2.1 (And.intro p2.1 (And.intro p2.2.1 (And.intro p2.2.2.1 (And.intro p2.2.2.2.1 p2.2.2.2.2.1)))))))))));clear p0 p1 p2;clear hb4))
  go_wp2_with fail
  go_ret;exact⟨congrArg (fun z=>Ending.returned (Value.string z)) (by simp only [cat_mk,List.append_assoc,List.cons_append,List.nil_append]),HX.out.below⟩
 by_cases z47:op=47
 ·
  subst z47;obtain⟨a,hl1,hr0⟩:=isa rfl;have hln:l.length=1:=by rw [hl1];rfl
  have hlen0:0 < l.length:=by omega
  have hlen0i:(0:Int) < (l.length:Int):=by omega
  have h0:l[0]? = some a:=by rw [hl1];rfl
  have hz0:=HZL.out a (by rw [hl1];simp)
  rw [Sy.P47 h0] at hl |-
  have hg:(Sy.P a d).length<=1099511627776:=by simp only [List.length_append,List.length_cons] at hl;omega
  have hg0:=hg;obtain⟨b,o,rfl⟩:=kid_addr hk h0;obtain⟨A0,c0,HK0⟩:=kid_all (e:=o) hk h0 (by omega)
  have C0:=hid (fun W (hW:Below w.heap.size w W)=>rblock_n HE a _ d ib W S hib (HK0.out W hW).2.2.2.2.2 (Nat.le_succ_of_le hz0) hr0 hd2 hg0)
  clear hl1 hln hk hl hz hr hok hna hn HZL hib hg h0 hz0 hr0 g1 g2 g50 g51 ix iif iwh ire itr isa iun ise z40 z41 z42 z43 z44 z45 z46 HE HC hd2;generalize Sy.P a d=pa at *;have HX:=hid (Bx.refl (w:=w) (cs:=#[.int .i64 47,.string ⟨nm.toArray⟩,.int .i64 n,.string ⟨t.toArray⟩,.slice (some ⟨b,o,none⟩) l.length c]));go_enter Tryz.func117,Tryz.ntmps117;obtain⟨q0,q1,q2,q3,q4⟩:=bx_five9 HX.out;obtain⟨k00,k01,k02,k03,k04,_⟩:=HK0.out _ HX.out.below;go_wp2_with fail;refine(C0.out _ HX.out.below).mono ?_;rintro e w4 ⟨rfl,hb4⟩;replace HX:=hid (HX.out.step hb4);clear hb4;clear q0 q1 q2 q3 q4 k00 k01 k02 k03 k04;go_wp2_with fail;go_ret;exact⟨congrArg (fun z=>Ending.returned (Value.string z)) (by simp only [cat_mk,List.append_assoc,List.cons_append,List.nil_append]),HX.out.below⟩
 by_cases z48:op=48
 ·
  subst z48;have hs:=iun rfl;rw [Sy.P48] at hl |-
  have hg:(Sy.glue (l.map Sy.X)).length<=1099511627776/\(nm).length<=1099511627776:=by simp only [List.length_append,List.length_cons] at hl;omega
  obtain⟨hg0,hg1⟩:=id hg;have CL:=hid (fun W (hW:Below w.heap.size w W)=>rlist_any (rexpr_all m) l A c W S (hk.below hW) (fun v hv=>⟨HZL.out v hv,List.all_eq_true.1 hs v hv⟩) hn hg0)
  generalize Sy.glue (l.map Sy.X)=gl at *;clear hk hl hz hr hok hna hn HZL hib HE HC hd2 hs hg g1 g2 g50 g51 ix iif iwh ire itr isa iun ise z40 z41 z42 z43 z44 z45 z46 z47;have sm2:¬ 9223372036854775807 < 5+nm.length:=by omega
  have sm3:¬ 9223372036854775807 < 5+nm.length+1:=by omega
  have smb3:¬ 9223372036854775806 < 5+nm.length:=by omega
  have sm4:¬ 9223372036854775807 < 5+nm.length+1+gl.length:=by omega
  have sm5:¬ 9223372036854775807 < 5+nm.length+1+gl.length+2:=by omega
  have smb5:¬ 9223372036854775805 < 5+nm.length+1+gl.length:=by omega
  have HX:=hid (Bx.refl (w:=w) (cs:=#[.int .i64 48,.string ⟨nm.toArray⟩,.int .i64 n,.string ⟨t.toArray⟩,.slice A l.length c]));go_enter Tryz.func117,Tryz.ntmps117;go_wp2_with fail;replace HX:=hid (HX.out.step ((Below.refl _ _).drew));have p0:=bx_five9 HX.out;have HS:=hid (And.intro p0.2.1 p0.2.2.2.2);clear p0;go_region_held3 (fun W=>W.cell? ⟨w.heap.size,1,none⟩=some (.string ⟨nm.toArray⟩)/\W.cell? ⟨w.heap.size,4,none⟩=some (.slice A l.length c))
   (first | exact HS.out | go_keep)
   (first
    | (go_at_call 67;(with_reducible refine(CL.out _ HX.out.below).mono ?_);rintro e w4 ⟨rfl,hb4⟩;replace HX:=hid (HX.out.step hb4);have p0:=bx_five9 HX.out;have HS:=hid (And.intro p0.2.1 p0.2.2.2.2);clear p0;clear hb4))
  go_wp2_with fail
  go_ret;exact⟨congrArg (fun z=>Ending.returned (Value.string z)) (by simp only [cat_mk,List.append_assoc,List.cons_append,List.nil_append]),HX.out.below⟩
 by_cases z49:op=49
 ·
  subst z49;have CC:=hid (fun W (hW:Below w.heap.size w W)=>rchoice_any HE n nm t l A c d ib W S hib (hk.below hW) HZL.out (ise rfl) hn (by omega) hl)
  generalize Sy.P (.mk 49 nm n t l) d=res at *;clear hk hl hz hr hok hna hn HZL hib HE HC hd2 g1 g2 g50 g51 ix iif iwh ire itr isa iun ise z40 z41 z42 z43 z44 z45 z46 z47 z48;have HX:=hid (Bx.refl (w:=w) (cs:=#[.int .i64 49,.string ⟨nm.toArray⟩,.int .i64 n,.string ⟨t.toArray⟩,.slice A l.length c]));go_enter Tryz.func117,Tryz.ntmps117;go_wp2_with fail;refine(CC.out _ HX.out.below).mono ?_;rintro e w4 ⟨rfl,hb4⟩;replace HX:=hid (HX.out.step hb4);clear hb4;go_wp2_with fail;go_ret;exact⟨rfl,HX.out.below⟩
 obtain rfl:op=52:=by omega
 obtain⟨a,hl1,hr0⟩:=ix (by omega)
 have hln:l.length=1:=by rw [hl1];rfl
 have hlen0:0 < l.length:=by omega
 have hlen0i:(0:Int) < (l.length:Int):=by omega
 have h0:l[0]? = some a:=by rw [hl1];rfl
 have hz0:=HZL.out a (by rw [hl1];simp)
 rw [Sy.P52 h0] at hl |-
 have hg:(Sy.X a).length<=1099511627776:=by simp only [List.length_append,List.length_cons] at hl;omega
 have hg0:=hg;obtain⟨b,o,rfl⟩:=kid_addr hk h0;obtain⟨A0,c0,HK0⟩:=kid_all (e:=o) hk h0 (by omega)
 have C0:=hid (fun W (hW:Below w.heap.size w W)=>rexpr_all _ a _ W S (Nat.le_refl _) hr0 (HK0.out W hW).2.2.2.2.2 hg0)
 clear hl1 hln hk hl hz hr hok hna hn HZL hib hg h0 hz0 hr0 g1 g2 g50 g51 ix iif iwh ire itr isa iun ise z40 z41 z42 z43 z44 z45 z46 z47 z48 z49 HE HC hd2;generalize Sy.X a=xa at *;have HX:=hid (Bx.refl (w:=w) (cs:=#[.int .i64 52,.string ⟨nm.toArray⟩,.int .i64 n,.string ⟨t.toArray⟩,.slice (some ⟨b,o,none⟩) l.length c]));go_enter Tryz.func117,Tryz.ntmps117;obtain⟨q0,q1,q2,q3,q4⟩:=bx_five9 HX.out;obtain⟨k00,k01,k02,k03,k04,_⟩:=HK0.out _ HX.out.below;go_wp2_with fail;refine(C0.out _ HX.out.below).mono ?_;rintro e w4 ⟨rfl,hb4⟩;replace HX:=hid (HX.out.step hb4);clear hb4;clear q0 q1 q2 q3 q4 k00 k01 k02 k03 k04;go_wp2_with fail;go_ret;exact⟨congrArg (fun z=>Ending.returned (Value.string z)) (by simp only [cat_mk,List.append_assoc,List.cons_append,List.nil_append]),HX.out.below⟩
theorem rstmt_all:∀ m,RS9 m/\RC9 m
 | 0=>⟨fun v _ _ _ _ _ _ hz=>by have:=Sy.N.size_pos v;omega,fun v _ _ _ _ _ _ hz=>by have:=Sy.N.size_pos v;omega⟩
 | m+1=>by
  obtain⟨h1,h2⟩:=rstmt_all m;have h3:=rcond_step h1 h2;exact⟨rstmt_step h1 h3,h3⟩
end Go.Proofs.YtgeppafcemeidaaGreatDoor
namespace Go.Proofs.YtgeppafcemeidaaGreatDoor
open Go.RowKit
open Sy (N)
namespace Sy
theorem rPar_inv:∀ {l:List N},rPar l=true->∃ b,l.getLast? = some b/\rB b=true/\l.dropLast.all rX=true
 | [],h=>by rw [rPar] at h;cases h
 | [b],h=>by rw [rPar] at h;exact⟨b,rfl,h,rfl⟩
 | a::b::l,h=>by
  rw [rPar] at h
  ·
   simp only [Bool.and_eq_true,beq_iff_eq] at h;obtain⟨c,h1,h2,h3⟩:=rPar_inv h.2;refine⟨c,by rw [List.getLast?_cons_cons];exact h1,h2,?_⟩
   rw [List.dropLast_cons_of_ne_nil (by simp),List.all_cons,h3,h.1.2];rfl
  ·
   simp
theorem rD_inv' {v:N} (h:rD v=true) :
  (v.op=61/\∃ a,v.l=[a]/\rX a=true)\/(v.op=62/\∃ b,v.l.getLast? = some b/\rB b=true/\v.l.dropLast.all rX=true) \/
  ((v.op=63\/v.op=64\/v.op=65)/\∃ b,v.l=[b]/\rB b=true)\/(v.op=65/\∃ a b,v.l=[a,b]/\rB a=true/\rB b=true):=by
 unfold rD at h;split at h
 ·
  rename_i ho;rw [Bool.and_eq_true] at h
  match hv:v.l,h.2 with
  | [a],hl =>
   rw [rVar] at hl;refine .inl ⟨ho,a,rfl,?_⟩;unfold rK at hl;split at hl
   ·
    simp only [Bool.and_eq_true] at hl;exact hl.1
   ·
    simp only [Bool.and_eq_true] at hl;exact hl.1.1
 split at h
 ·
  rename_i ho;rw [Bool.and_eq_true] at h;exact .inr (.inl ⟨ho,rPar_inv h.2⟩)
 split at h
 ·
  rename_i ho;simp only [Bool.and_eq_true,beq_iff_eq] at h
  match hv:v.l,h with
  | [b],h =>
   have:=h.2;rw [rBs,Bool.and_eq_true] at this;exact .inr (.inr (.inl ⟨by omega,b,rfl,this.1⟩))
 split at h
 ·
  rename_i ho;simp only [Bool.and_eq_true,decide_eq_true_eq] at h
  match hv:v.l,h with
  | [b],h =>
   have:=h.2;rw [rBs,Bool.and_eq_true] at this;exact .inr (.inr (.inl ⟨by omega,b,rfl,this.1⟩))
  | [a,b],h =>
   have:=h.2;rw [rBs,Bool.and_eq_true,rBs,Bool.and_eq_true] at this;exact .inr (.inr (.inr ⟨ho,a,b,rfl,this.1,this.2.1⟩))
  | [],h=>simp at h
  | a::b::c::r,h=>simp at h
 ·
  cases h
theorem rD_inv {op n:Int} {nm t:List UInt8} {l:List N} (h:rD (.mk op nm n t l)=true) :
 (op=61/\∃ a,l=[a]/\rX a=true)\/(op=62/\∃ b,l.getLast? = some b/\rB b=true/\l.dropLast.all rX=true) \/
 ((op=63\/op=64\/op=65)/\∃ b,l=[b]/\rB b=true)\/(op=65/\∃ a b,l=[a,b]/\rB a=true/\rB b=true):=rD_inv' h
end Sy
theorem rdecl_any (v:N) (va:Value) (w:World) (S:Nat->Prop) (hz:Sy.N.size v<=400000000) (hr:Sy.rD v=true) (hna:NA w S va v) (hl:(Sy.D v).length<=1099511627776) :
  Calls Tryz.prog 40 #[va] w (RP9 w (Sy.D v)):=by
 obtain⟨op,nm,n,t,l⟩:=v;obtain⟨A,c,rfl,hok,hk⟩:=hna.open_;simp only [Sy.N.op,Sy.N.nm,Sy.N.n,Sy.N.t,Sy.N.l] at hok hk |-
 have hn:l.length<=4398046511104:=by have:=hok.2.2.2.2.2.2;omega
 have HZL:Hid (∀ v∈l,Sy.N.size v<=400000000):=fun v hv=>by
  have h1:=Sy.N.size_mem hv;rw [Sy.N.size_mk] at hz;omega
 have HE:=(rstmt_all 400000000).1;have hib:(⟨#[]⟩:ByteArray)=⟨(Sy.sp 0).toArray⟩:=rfl;rcases Sy.rD_inv hr with⟨ho,a,hl1,hr0⟩ | ⟨ho,b2,hlast,hrb,hpar⟩ | ⟨ho,b2,hl1,hr0⟩ | ⟨ho,a,b2,hl1,hr0,hr1⟩
 ·
  subst ho;have hln:l.length=1:=by rw [hl1];rfl
  have hlen0:0 < l.length:=by omega
  have hlen0i:(0:Int) < (l.length:Int):=by omega
  have h0:l[0]? = some a:=by rw [hl1];rfl
  have hz0:=HZL.out a (by rw [hl1];simp)
  rw [Sy.D61 h0] at hl |-
  have hg:(Sy.X a).length<=1099511627776/\(nm).length<=1099511627776:=by simp only [List.length_append,List.length_cons] at hl;omega
  obtain⟨hg0,hg1⟩:=id hg;obtain⟨b,o,rfl⟩:=kid_addr hk h0;obtain⟨A0,c0,HK0⟩:=kid_all (e:=o) hk h0 (by omega)
  have C0:=hid (fun W (hW:Below w.heap.size w W)=>rexpr_all _ a _ W S (Nat.le_refl _) hr0 (HK0.out W hW).2.2.2.2.2 hg0)
  have hm1:((l.length:Int) - 1)=0:=by omega
  clear hl1 hln hk hl hz hr hok hna hn HZL hib hg HE h0 hz0 hr0;generalize Sy.X a=xa at *;have sm2:¬ 9223372036854775807 < 4+nm.length:=by omega
  have sm3:¬ 9223372036854775807 < 4+nm.length+3:=by omega
  have smb3:¬ 9223372036854775804 < 4+nm.length:=by omega
  have sm4:¬ 9223372036854775807 < 4+nm.length+3+xa.length:=by omega
  have sm5:¬ 9223372036854775807 < 4+nm.length+3+xa.length+1:=by omega
  have smb5:¬ 9223372036854775806 < 4+nm.length+3+xa.length:=by omega
  have HX:=hid (Bx.refl (w:=w) (cs:=#[.int .i64 61,.string ⟨nm.toArray⟩,.int .i64 n,.string ⟨t.toArray⟩,.slice (some ⟨b,o,none⟩) l.length c]));go_enter Tryz.func40,Tryz.ntmps40;go_wp2_with fail;replace HX:=hid (HX.out.step ((Below.refl _ _).drew));have p0:=bx_five9 HX.out;have p1:=HK0.out _ HX.out.below;have HS:=hid (And.intro p0.2.1 (And.intro p0.2.2.2.2 (And.intro p1.1 (And.intro p1.2.1 (And.intro p1.2.2.1 (And.intro p1.2.2.2.1 p1.2.2.2.2.1))))));clear p0 p1;go_region_held3 (fun W=>W.cell? ⟨w.heap.size,1,none⟩=some (.string ⟨nm.toArray⟩)/\W.cell? ⟨w.heap.size,4,none⟩=some (.slice (some ⟨b,o,none⟩) l.length c)/\W.cell? ⟨b,o,none⟩=some (.int .i64 a.op)/\W.cell? ⟨b,o+1,none⟩=some (.string ⟨a.nm.toArray⟩)/\W.cell? ⟨b,o+2,none⟩=some (.int .i64 a.n)/\W.cell? ⟨b,o+3,none⟩=some (.string ⟨a.t.toArray⟩)/\W.cell? ⟨b,o+4,none⟩=some (.slice A0 a.l.length c0))
   (first | exact HS.out | go_keep)
   (first
    | (go_at_call 43;(with_reducible refine(C0.out _ HX.out.below).mono ?_);rintro e w4 ⟨rfl,hb4⟩;replace HX:=hid (HX.out.step hb4);have p0:=bx_five9 HX.out;have p1:=HK0.out _ HX.out.below;have HS:=hid (And.intro p0.2.1 (And.intro p0.2.2.2.2 (And.intro p1.1 (And.intro p1.2.1 (And.intro p1.2.2.1 (And.intro p1.2.2.2.1 p1.2.2.2.2.1))))));clear p0 p1;clear hb4))
  go_wp2_with fail
  go_ret;exact⟨congrArg (fun z=>Ending.returned (Value.string z)) (by simp only [cat_mk,List.append_assoc,List.cons_append,List.nil_append]),HX.out.below⟩
 ·
  subst ho;rw [Sy.D62 hlast] at hl |-
  have hg:(nm).length<=1099511627776/\(Sy.glue (l.dropLast.map Sy.X)).length<=1099511627776/\(Sy.P b2 0).length<=1099511627776:=by simp only [List.length_append,List.length_cons] at hl;omega
  obtain⟨hg0,hg1,hg2⟩:=id hg;have h0:=Sy.last_at hlast;have hlen0:0 < l.length:=by have:=(List.getElem?_eq_some_iff.1 h0).1;omega
  have hz0:=HZL.out b2 (List.mem_of_getElem? h0);have hmc:l.length<=c:=by
   obtain⟨xs,⟨A2,c2,he,r1,_⟩,_⟩:=hk;injection he with _ _ e3;omega
  obtain⟨m1,hm1⟩:∃ m1:Nat,m1=l.length - 1:=⟨_,rfl⟩;obtain⟨b,o,rfl⟩:=kid_addr hk h0;obtain⟨A0,c0,HK0⟩:=kid_all (e:=o+m1 * 5) hk h0 (by rw [hm1])
  have C0:=hid (fun W (hW:Below w.heap.size w W)=>rblock_n HE b2 _ 0 _ W S hib (HK0.out W hW).2.2.2.2.2 (Nat.le_succ_of_le hz0) hrb (by omega) hg2)
  have CL:=fun W (hW:Below w.heap.size w W)=>rlist_any (rexpr_all 400000000) l.dropLast (some ⟨b,o,none⟩) c W S (by have:=(hk.below hW).init_;rwa [<- List.length_dropLast] at this) (fun v hv=>⟨HZL.out v ((List.dropLast_sublist l).subset hv),List.all_eq_true.1 hpar v hv⟩) (by rw [List.length_dropLast];omega) hg1
  rw [List.length_dropLast,<- hm1] at CL;have CL:=hid CL;have hlast2:((l.length:Int) - 1)=(m1:Int):=by omega
  have hm2:(m1:Int) < (l.length:Int):=by omega
  have hm3:(m1:Int)<=(l.length:Int):=by omega
  have hm2n:m1 < l.length:=by omega
  have hm3n:m1<=l.length:=by omega
  have hmb:m1<=4398046511104:=by omega
  have hmbi:(m1:Int)<=9223372036854775807:=by omega
  have hmc2:m1<=c:=by omega
  have hmc3:(m1:Int)<=(c:Int):=by omega
  have hm0:(0:Int)<=(m1:Int):=by omega
  have hcn:¬ c=0:=by omega
  clear hlast hk hl hz hr hok hna hn HZL hib hg HE h0 hz0 hrb hpar hm1;generalize Sy.glue (l.dropLast.map Sy.X)=gl at *;generalize Sy.P b2 0=pk at *;have sm2:¬ 9223372036854775807 < 5+nm.length:=by omega
  have sm3:¬ 9223372036854775807 < 5+nm.length+1:=by omega
  have smb3:¬ 9223372036854775806 < 5+nm.length:=by omega
  have sm4:¬ 9223372036854775807 < 5+nm.length+1+gl.length:=by omega
  have sm5:¬ 9223372036854775807 < 5+nm.length+1+gl.length+2:=by omega
  have smb5:¬ 9223372036854775805 < 5+nm.length+1+gl.length:=by omega
  have sm6:¬ 9223372036854775807 < 5+nm.length+1+gl.length+2+pk.length:=by omega
  have HX:=hid (Bx.refl (w:=w) (cs:=#[.int .i64 62,.string ⟨nm.toArray⟩,.int .i64 n,.string ⟨t.toArray⟩,.slice (some ⟨b,o,none⟩) l.length c]));go_enter Tryz.func40,Tryz.ntmps40;go_wp2_with fail;replace HX:=hid (HX.out.step ((Below.refl _ _).drew));have p0:=bx_five9 HX.out;have p1:=HK0.out _ HX.out.below;have HS:=hid (And.intro p0.2.1 (And.intro p0.2.2.2.2 (And.intro p1.1 (And.intro p1.2.1 (And.intro p1.2.2.1 (And.intro p1.2.2.2.1 p1.2.2.2.2.1))))));clear p0 p1;go_region_held3 (fun W=>W.cell? ⟨w.heap.size,1,none⟩=some (.string ⟨nm.toArray⟩)/\W.cell? ⟨w.heap.size,4,none⟩=some (.slice (some ⟨b,o,none⟩) l.length c)/\W.cell? ⟨b,o+m1 * 5,none⟩=some (.int .i64 b2.op)/\W.cell? ⟨b,o+m1 * 5+1,none⟩=some (.string ⟨b2.nm.toArray⟩)/\W.cell? ⟨b,o+m1 * 5+2,none⟩=some (.int .i64 b2.n)/\W.cell? ⟨b,o+m1 * 5+3,none⟩=some (.string ⟨b2.t.toArray⟩)/\W.cell? ⟨b,o+m1 * 5+4,none⟩=some (.slice A0 b2.l.length c0))
   (first | exact HS.out | go_keep)
   (first
    | (go_at_call 67;(with_reducible refine(CL.out _ HX.out.below).mono ?_);rintro e w4 ⟨rfl,hb4⟩;replace HX:=hid (HX.out.step hb4);have p0:=bx_five9 HX.out;have p1:=HK0.out _ HX.out.below;have HS:=hid (And.intro p0.2.1 (And.intro p0.2.2.2.2 (And.intro p1.1 (And.intro p1.2.1 (And.intro p1.2.2.1 (And.intro p1.2.2.2.1 p1.2.2.2.2.1))))));clear p0 p1;clear hb4)
    | (go_at_call 68;(with_reducible refine(C0.out _ HX.out.below).mono ?_);rintro e w4 ⟨rfl,hb4⟩;replace HX:=hid (HX.out.step hb4);have p0:=bx_five9 HX.out;have p1:=HK0.out _ HX.out.below;have HS:=hid (And.intro p0.2.1 (And.intro p0.2.2.2.2 (And.intro p1.1 (And.intro p1.2.1 (And.intro p1.2.2.1 (And.intro p1.2.2.2.1 p1.2.2.2.2.1))))));clear p0 p1;clear hb4))
  go_wp2_with fail
  go_ret;exact⟨congrArg (fun z=>Ending.returned (Value.string z)) (by simp only [cat_mk,List.append_assoc,List.cons_append,List.nil_append]),HX.out.below⟩
 ·
  have hlst:l.getLast? = some b2:=by rw [hl1];rfl
  have hln:l.length=1:=by rw [hl1];rfl
  have hlen0:0 < l.length:=by omega
  have hlen0i:(0:Int) < (l.length:Int):=by omega
  have h0:l[0]? = some b2:=by rw [hl1];rfl
  have hz0:=HZL.out b2 (by rw [hl1];simp)
  obtain⟨e63,e64,e65⟩:=Sy.D_one (n:=n) (nm:=nm) (t:=t) hlst hln;unfold Sy.hdl at e63 e64 e65;have hm1:((l.length:Int) - 1)=0:=by omega
  obtain⟨b,o,rfl⟩:=kid_addr hk h0;rcases ho with rfl | rfl | rfl
  ·
   rw [e63] at hl |-
   have hg:(nm).length<=1099511627776/\(t).length<=1099511627776/\(Sy.P b2 0).length<=1099511627776:=by simp only [List.length_append,List.length_cons] at hl;omega
   obtain⟨hg0,hg1,hg2⟩:=id hg;obtain⟨A0,c0,HK0⟩:=kid_all (e:=o) hk h0 (by omega)
   have C0:=hid (fun W (hW:Below w.heap.size w W)=>rblock_n HE b2 _ 0 _ W S hib (HK0.out W hW).2.2.2.2.2 (Nat.le_succ_of_le hz0) hr0 (by omega) hg2)
   clear hl1 hln hk hl hz hr hok hna hn HZL hib hg HE h0 hz0 hr0 hlst e63 e64 e65;generalize Sy.P b2 0=pk at *;have sm2:¬ 9223372036854775807 < 10+nm.length:=by omega
   have sm3:¬ 9223372036854775807 < 10+nm.length+1:=by omega
   have smb3:¬ 9223372036854775806 < 10+nm.length:=by omega
   have sm4:¬ 9223372036854775807 < 10+nm.length+1+t.length:=by omega
   have sm5:¬ 9223372036854775807 < 10+nm.length+1+t.length+2:=by omega
   have smb5:¬ 9223372036854775805 < 10+nm.length+1+t.length:=by omega
   have sm6:¬ 9223372036854775807 < 10+nm.length+1+t.length+2+pk.length:=by omega
   have HX:=hid (Bx.refl (w:=w) (cs:=#[.int .i64 63,.string ⟨nm.toArray⟩,.int .i64 n,.string ⟨t.toArray⟩,.slice (some ⟨b,o,none⟩) l.length c]));go_enter Tryz.func40,Tryz.ntmps40;go_wp2_with fail;replace HX:=hid (HX.out.step ((Below.refl _ _).drew));have p0:=bx_five9 HX.out;have p1:=HK0.out _ HX.out.below;have HS:=hid (And.intro p0.2.1 (And.intro p0.2.2.2.1 (And.intro p0.2.2.2.2 (And.intro p1.1 (And.intro p1.2.1 (And.intro p1.2.2.1 (And.intro p1.2.2.2.1 p1.2.2.2.2.1)))))));clear p0 p1;go_region_held3 (fun W=>W.cell? ⟨w.heap.size,1,none⟩=some (.string ⟨nm.toArray⟩)/\W.cell? ⟨w.heap.size,3,none⟩=some (.string ⟨t.toArray⟩)/\W.cell? ⟨w.heap.size,4,none⟩=some (.slice (some ⟨b,o,none⟩) l.length c)/\W.cell? ⟨b,o,none⟩=some (.int .i64 b2.op)/\W.cell? ⟨b,o+1,none⟩=some (.string ⟨b2.nm.toArray⟩)/\W.cell? ⟨b,o+2,none⟩=some (.int .i64 b2.n)/\W.cell? ⟨b,o+3,none⟩=some (.string ⟨b2.t.toArray⟩)/\W.cell? ⟨b,o+4,none⟩=some (.slice A0 b2.l.length c0))
    (first | exact HS.out | go_keep)
    (first
     | (go_at_call 68;(with_reducible refine(C0.out _ HX.out.below).mono ?_);rintro e w4 ⟨rfl,hb4⟩;replace HX:=hid (HX.out.step hb4);have p0:=bx_five9 HX.out;have p1:=HK0.out _ HX.out.below;have HS:=hid (And.intro p0.2.1 (And.intro p0.2.2.2.1 (And.intro p0.2.2.2.2 (And.intro p1.1 (And.intro p1.2.1 (And.intro p1.2.2.1 (And.intro p1.2.2.2.1 p1.2.2.2.2.1)))))));clear p0 p1;clear hb4))
   go_wp2_with fail
   go_ret;exact⟨congrArg (fun z=>Ending.returned (Value.string z)) (by simp only [cat_mk,List.append_assoc,List.cons_append,List.nil_append]),HX.out.below⟩
  ·
   rw [e64] at hl |-
   have hg:(nm).length<=1099511627776/\(t).length<=1099511627776/\(Sy.P b2 0).length<=1099511627776:=by simp only [List.length_append,List.length_cons] at hl;omega
   obtain⟨hg0,hg1,hg2⟩:=id hg;obtain⟨A0,c0,HK0⟩:=kid_all (e:=o) hk h0 (by omega)
   have C0:=hid (fun W (hW:Below w.heap.size w W)=>rblock_n HE b2 _ 0 _ W S hib (HK0.out W hW).2.2.2.2.2 (Nat.le_succ_of_le hz0) hr0 (by omega) hg2)
   clear hl1 hln hk hl hz hr hok hna hn HZL hib hg HE h0 hz0 hr0 hlst e63 e64 e65;generalize Sy.P b2 0=pk at *;have sm2:¬ 9223372036854775807 < 9+nm.length:=by omega
   have sm3:¬ 9223372036854775807 < 9+nm.length+1:=by omega
   have smb3:¬ 9223372036854775806 < 9+nm.length:=by omega
   have sm4:¬ 9223372036854775807 < 9+nm.length+1+t.length:=by omega
   have sm5:¬ 9223372036854775807 < 9+nm.length+1+t.length+2:=by omega
   have smb5:¬ 9223372036854775805 < 9+nm.length+1+t.length:=by omega
   have sm6:¬ 9223372036854775807 < 9+nm.length+1+t.length+2+pk.length:=by omega
   have HX:=hid (Bx.refl (w:=w) (cs:=#[.int .i64 64,.string ⟨nm.toArray⟩,.int .i64 n,.string ⟨t.toArray⟩,.slice (some ⟨b,o,none⟩) l.length c]));go_enter Tryz.func40,Tryz.ntmps40;go_wp2_with fail;replace HX:=hid (HX.out.step ((Below.refl _ _).drew));have p0:=bx_five9 HX.out;have p1:=HK0.out _ HX.out.below;have HS:=hid (And.intro p0.2.1 (And.intro p0.2.2.2.1 (And.intro p0.2.2.2.2 (And.intro p1.1 (And.intro p1.2.1 (And.intro p1.2.2.1 (And.intro p1.2.2.2.1 p1.2.2.2.2.1)))))));clear p0 p1;go_region_held3 (fun W=>W.cell? ⟨w.heap.size,1,none⟩=some (.string ⟨nm.toArray⟩)/\W.cell? ⟨w.heap.size,3,none⟩=some (.string ⟨t.toArray⟩)/\W.cell? ⟨w.heap.size,4,none⟩=some (.slice (some ⟨b,o,none⟩) l.length c)/\W.cell? ⟨b,o,none⟩=some (.int .i64 b2.op)/\W.cell? ⟨b,o+1,none⟩=some (.string ⟨b2.nm.toArray⟩)/\W.cell? ⟨b,o+2,none⟩=some (.int .i64 b2.n)/\W.cell? ⟨b,o+3,none⟩=some (.string ⟨b2.t.toArray⟩)/\W.cell? ⟨b,o+4,none⟩=some (.slice A0 b2.l.length c0))
    (first | exact HS.out | go_keep)
    (first
     | (go_at_call 68;(with_reducible refine(C0.out _ HX.out.below).mono ?_);rintro e w4 ⟨rfl,hb4⟩;replace HX:=hid (HX.out.step hb4);have p0:=bx_five9 HX.out;have p1:=HK0.out _ HX.out.below;have HS:=hid (And.intro p0.2.1 (And.intro p0.2.2.2.1 (And.intro p0.2.2.2.2 (And.intro p1.1 (And.intro p1.2.1 (And.intro p1.2.2.1 (And.intro p1.2.2.2.1 p1.2.2.2.2.1)))))));clear p0 p1;clear hb4))
   go_wp2_with fail
   go_ret;exact⟨congrArg (fun z=>Ending.returned (Value.string z)) (by simp only [cat_mk,List.append_assoc,List.cons_append,List.nil_append]),HX.out.below⟩
  ·
   rw [e65] at hl |-
   have hg:(nm).length<=1099511627776/\(t).length<=1099511627776/\(Sy.P b2 0).length<=1099511627776:=by simp only [List.length_append,List.length_cons] at hl;omega
   obtain⟨hg0,hg1,hg2⟩:=id hg;obtain⟨A0,c0,HK0⟩:=kid_all (e:=o) hk h0 (by omega)
   have C0:=hid (fun W (hW:Below w.heap.size w W)=>rblock_n HE b2 _ 0 _ W S hib (HK0.out W hW).2.2.2.2.2 (Nat.le_succ_of_le hz0) hr0 (by omega) hg2)
   clear hl1 hln hk hl hz hr hok hna hn HZL hib hg HE h0 hz0 hr0 hlst e63 e64 e65;generalize Sy.P b2 0=pk at *;have sm2:¬ 9223372036854775807 < 10+nm.length:=by omega
   have sm3:¬ 9223372036854775807 < 10+nm.length+1:=by omega
   have smb3:¬ 9223372036854775806 < 10+nm.length:=by omega
   have sm4:¬ 9223372036854775807 < 10+nm.length+1+t.length:=by omega
   have sm5:¬ 9223372036854775807 < 10+nm.length+1+t.length+2:=by omega
   have smb5:¬ 9223372036854775805 < 10+nm.length+1+t.length:=by omega
   have sm6:¬ 9223372036854775807 < 10+nm.length+1+t.length+2+pk.length:=by omega
   have HX:=hid (Bx.refl (w:=w) (cs:=#[.int .i64 65,.string ⟨nm.toArray⟩,.int .i64 n,.string ⟨t.toArray⟩,.slice (some ⟨b,o,none⟩) l.length c]));go_enter Tryz.func40,Tryz.ntmps40;obtain⟨q0,q1,q2,q3,q4⟩:=bx_five9 HX.out;obtain⟨k00,k01,k02,k03,k04,_⟩:=HK0.out _ HX.out.below;go_wp2_with fail;refine(C0.out _ HX.out.below).mono ?_;rintro e w4 ⟨rfl,hb4⟩;replace HX:=hid (HX.out.step hb4);clear hb4;clear q0 q1 q2 q3 q4 k00 k01 k02 k03 k04;go_wp2_with fail;go_ret;exact⟨congrArg (fun z=>Ending.returned (Value.string z)) (by simp only [cat_mk,List.append_assoc,List.cons_append,List.nil_append]),HX.out.below⟩
 ·
  subst ho;have hlst:l.getLast? = some b2:=by rw [hl1];rfl
  have hln:l.length=2:=by rw [hl1];rfl
  have hlen0:0 < l.length:=by omega
  have hlen0i:(0:Int) < (l.length:Int):=by omega
  have h0:l[0]? = some a:=by rw [hl1];rfl
  have hz0:=HZL.out a (by rw [hl1];simp)
  have hlen1:1 < l.length:=by omega
  have hlen1i:(1:Int) < (l.length:Int):=by omega
  have h1:l[1]? = some b2:=by rw [hl1];rfl
  have hz1:=HZL.out b2 (by rw [hl1];simp)
  rw [Sy.D_two (n:=n) (nm:=nm) (t:=t) hlst h0 (by omega)] at hl |-
  unfold Sy.hdl at hl |-
  have hm1:((l.length:Int) - 1)=1:=by omega
  have hg:(nm).length<=1099511627776/\(t).length<=1099511627776/\(Sy.P a 0).length<=1099511627776/\(Sy.P b2 0).length<=1099511627776:=by simp only [List.length_append,List.length_cons] at hl;omega
  obtain⟨hg0,hg1,hg2,hg3⟩:=id hg;obtain⟨b,o,rfl⟩:=kid_addr hk h0;obtain⟨A0,c0,HK0⟩:=kid_all (e:=o) hk h0 (by omega)
  obtain⟨A1,c1,HK1⟩:=kid_all (e:=o+5) hk h1 (by omega)
  have C0:=hid (fun W (hW:Below w.heap.size w W)=>rblock_n HE a _ 0 _ W S hib (HK0.out W hW).2.2.2.2.2 (Nat.le_succ_of_le hz0) hr0 (by omega) hg2)
  have C1:=hid (fun W (hW:Below w.heap.size w W)=>rblock_n HE b2 _ 0 _ W S hib (HK1.out W hW).2.2.2.2.2 (Nat.le_succ_of_le hz1) hr1 (by omega) hg3)
  clear hl1 hln hk hl hz hr hok hna hn HZL hib hg HE h0 hz0 hr0 h1 hz1 hr1 hlst;generalize Sy.P a 0=pa at *;generalize Sy.P b2 0=pk at *;have sm2:¬ 9223372036854775807 < 10+nm.length:=by omega
  have sm3:¬ 9223372036854775807 < 10+nm.length+1:=by omega
  have smb3:¬ 9223372036854775806 < 10+nm.length:=by omega
  have sm4:¬ 9223372036854775807 < 10+nm.length+1+t.length:=by omega
  have sm5:¬ 9223372036854775807 < 10+nm.length+1+t.length+8:=by omega
  have smb5:¬ 9223372036854775799 < 10+nm.length+1+t.length:=by omega
  have sm6:¬ 9223372036854775807 < 10+nm.length+1+t.length+8+pa.length:=by omega
  have sm7:¬ 9223372036854775807 < 10+nm.length+1+t.length+8+pa.length+1:=by omega
  have smb7:¬ 9223372036854775806 < 10+nm.length+1+t.length+8+pa.length:=by omega
  have sm8:¬ 9223372036854775807 < 10+nm.length+1+t.length+8+pa.length+1+pk.length:=by omega
  have HX:=hid (Bx.refl (w:=w) (cs:=#[.int .i64 65,.string ⟨nm.toArray⟩,.int .i64 n,.string ⟨t.toArray⟩,.slice (some ⟨b,o,none⟩) l.length c]));go_enter Tryz.func40,Tryz.ntmps40;obtain⟨q0,q1,q2,q3,q4⟩:=bx_five9 HX.out;obtain⟨k00,k01,k02,k03,k04,_⟩:=HK0.out _ HX.out.below;obtain⟨k10,k11,k12,k13,k14,_⟩:=HK1.out _ HX.out.below;go_wp2_with fail;refine(C0.out _ HX.out.below).mono ?_;rintro e w4 ⟨rfl,hb4⟩;replace HX:=hid (HX.out.step hb4);clear hb4;clear q0 q1 q2 q3 q4 k00 k01 k02 k03 k04 k10 k11 k12 k13 k14;obtain⟨q0,q1,q2,q3,q4⟩:=bx_five9 HX.out;obtain⟨k00,k01,k02,k03,k04,_⟩:=HK0.out _ HX.out.below;obtain⟨k10,k11,k12,k13,k14,_⟩:=HK1.out _ HX.out.below;go_wp2_with fail;refine(C1.out _ HX.out.below).mono ?_;rintro e w4 ⟨rfl,hb4⟩;replace HX:=hid (HX.out.step hb4);clear hb4;clear q0 q1 q2 q3 q4 k00 k01 k02 k03 k04 k10 k11 k12 k13 k14;go_wp2_with fail;go_ret;exact⟨congrArg (fun z=>Ending.returned (Value.string z)) (by simp only [cat_mk,List.append_assoc,List.cons_append,List.nil_append]),HX.out.below⟩
end Go.Proofs.YtgeppafcemeidaaGreatDoor
namespace Go.Proofs.YtgeppafcemeidaaGreatDoor
open Go.RowKit
open Sy (N)
theorem right_rD {v:N} (h:Sy.right v=true):v.l.all Sy.rD=true:=by
 rw [<- Sy.rRight_eq] at h;unfold Sy.rRight at h;simp only [Bool.and_eq_true] at h;exact h.2
theorem rightX_rX {v:N} (h:Sy.rightX v=true):Sy.rX v=true:=by
 rw [<- Sy.rRightX_eq] at h;unfold Sy.rRightX at h;simp only [Bool.and_eq_true] at h;exact h.2
def RptRel (w:World) (cs:Array Value) (l:List N) (v4 v5:Value) (wr:World):Prop :=
 ∃ k:Nat,k<=l.length/\v5=.int .i64 (k:Int)/\v4=.string ⟨(dcs (l.take k)).toArray⟩/\Bx w cs wr
theorem rprintX_any (v:N) (va:Value) (w:World) (S:Nat->Prop) (hsz:Sy.N.size v<=1099511627776) (hna:NA w S va v) :
  Calls Tryz.prog 23 #[va] w fun e w'=>e=.returned (.tuple #[.string ⟨(prX v).1.toArray⟩,.int .i64 (prX v).2])/\Below w.heap.size w w':=by
 have HNA:=hid hna;have CR:=hid (fun W (hW:Below w.heap.size w W)=>rrightX_any v va W S hsz (hna.below hW))
 obtain⟨A,c,rfl,hok,hk⟩:=hna.open_;have HX:=hid (Bx.refl (w:=w) (cs:=#[.int .i64 v.op,.string ⟨v.nm.toArray⟩,.int .i64 v.n,.string ⟨v.t.toArray⟩,.slice A v.l.length c]));cases hr:Sy.rightX v
 ·
  have HP:Hid (prX v=([],2)):=by show _=_;unfold prX;rw [hr];rfl
  rw [HP.out];rw [hr] at CR;clear hr HP hok hk hna hsz;go_enter Tryz.func23,Tryz.ntmps23;go_wp2_with fail;refine(CR.out _ (bl _)).mono ?_;rintro e w1 ⟨rfl,hb⟩;have HB:=hid (bstep (bl _) hb);clear hb;go_wp2_with fail
  go_ret2
  exact⟨rfl,HB.out⟩
 ·
  have HP:Hid (prX v=outS (Sy.X v)):=by show _=_;unfold prX;rw [hr];rfl
  have HO:Hid (outS (Sy.X v)=if 16384 < (Sy.X v).length then ([],6) else (Sy.X v,0)):=rfl
  rw [HP.out];rw [hr] at CR;obtain⟨hl,_⟩:=Sy.rightX_len hr hna.nk_;have CX:=hid (fun W (hW:Below w.heap.size w W)=>rexpr_all _ v _ W S (Nat.le_refl _) (rightX_rX hr) (hna.below hW) hl)
  clear hr HP hok hk hna hsz;obtain⟨s,hs⟩:∃ s,s=Sy.X v:=⟨_,rfl⟩;rw [<- hs] at hl HO CX |-
  clear hs;go_enter Tryz.func23,Tryz.ntmps23;go_wp2_with fail;refine(CR.out _ (bl _)).mono ?_;rintro e w1 ⟨rfl,hb⟩;replace HX:=hid (HX.out.step hb);have q0:=HX.out.cell 0;have q1:=HX.out.cell 1;have q2:=HX.out.cell 2;have q3:=HX.out.cell 3;have q4:=HX.out.cell 4;simp only [List.getElem?_toArray,List.getElem?_cons_succ,List.getElem?_cons_zero] at q0 q1 q2 q3 q4;clear hb;go_wp2_with fail;refine(CX.out _ HX.out.below).mono ?_;rintro e w2 ⟨rfl,hb⟩;have HB:=hid (HX.out.step hb);clear hb;by_cases h16:16384 < s.length
  ·
   rw [if_pos h16] at HO;have h16':(16384:Int) < (s.length:Int):=by omega
   clear h16;go_wp2_with fail
   go_ret2
   exact⟨by rw [HO.out]<;>rfl,HB.out.below⟩
  ·
   rw [if_neg h16] at HO;have h16':¬ (16384:Int) < (s.length:Int):=by omega
   clear h16;go_wp2_with fail
   go_ret2
   exact⟨by rw [HO.out]<;>rfl,HB.out.below⟩
theorem rprint_any (v:N) (va:Value) (w:World) (S:Nat->Prop) (hsz:Sy.N.size v<=1099511627776) (hna:NA w S va v) :
  Calls Tryz.prog 21 #[va] w fun e w'=>e=.returned (.tuple #[.string ⟨(pr v).1.toArray⟩,.int .i64 (pr v).2])/\Below w.heap.size w w':=by
 have CR:=hid (fun W (hW:Below w.heap.size w W)=>rright_any v va W S hsz (hna.below hW))
 obtain⟨op,nm,n,t,l⟩:=v;obtain⟨A,c,rfl,hok,hk⟩:=hna.open_;simp only [Sy.N.op,Sy.N.nm,Sy.N.n,Sy.N.t,Sy.N.l] at hok hk CR hna |-
 have HX:=hid (Bx.refl (w:=w) (cs:=#[.int .i64 op,.string ⟨nm.toArray⟩,.int .i64 n,.string ⟨t.toArray⟩,.slice A l.length c]));cases hr:Sy.right (.mk op nm n t l)
 ·
  have HP:Hid (pr (.mk op nm n t l)=([],2)):=by show _=_;unfold pr;rw [hr];rfl
  rw [HP.out];rw [hr] at CR;clear hr HP hok hk hna hsz;go_enter Tryz.func21,Tryz.ntmps21;go_wp2_with fail;refine(CR.out _ (bl _)).mono ?_;rintro e w1 ⟨rfl,hb⟩;have HB:=hid (bstep (bl _) hb);clear hb;go_wp2_with fail
  go_ret2
  exact⟨rfl,HB.out⟩
 ·
  have HP:Hid (pr (.mk op nm n t l)=outS (dcs l)):=by show _=_;unfold pr;rw [hr];rfl
  have HO:Hid (outS (dcs l)=if 16384 < (dcs l).length then ([],6) else (dcs l,0)):=rfl
  rw [HP.out];rw [hr] at CR;obtain⟨hl,hz4⟩:=Sy.right_len hr hna.nk_;have hl:(dcs l).length<=1099511627776:=hl;have hall:=right_rD hr;have hln:l.length<=4398046511104:=by have:=hok.2.2.2.2.2.2;omega
  have HZ:Hid (∀ v∈l,Sy.N.size v<=400000000/\Sy.rD v=true):=fun v hv=>⟨by have:=Sy.N.size_mem hv;rw [Sy.N.size_mk] at hz4;omega,List.all_eq_true.1 hall v hv⟩
  have HK:=hid hk;have HL:=hid hl;clear hr HP hok hk hna hsz hall hz4 hl;go_enter Tryz.func21,Tryz.ntmps21;go_wp2_with fail;refine(CR.out _ (bl _)).mono ?_;rintro e w1 ⟨rfl,hb⟩;replace HX:=hid (HX.out.step hb);clear hb;go_wp2_with fail
  go_loopw [4,5] (fun v4 v5 wr=>RptRel w #[.int .i64 op,.string ⟨nm.toArray⟩,.int .i64 n,.string ⟨t.toArray⟩,.slice A l.length c] l v4 v5 wr) (fun _ v5 _=>l.length - (intOf v5).toNat)
  case atStart=>exact⟨0,Nat.zero_le _,rfl,rfl,HX.out⟩
  case round =>
   clear HX;obtain⟨k,hk,rfl,rfl,hbx⟩:=hrel;have HX:=hid hbx;clear hbx;obtain⟨q0,q1,q2,q3,q4⟩:=bx_five9 HX.out;by_cases hlt:k < l.length
   ·
    have h0:l[k]? = some l[k]:=List.getElem?_eq_getElem hlt;obtain⟨b,o,rfl⟩:=kid_addr HK.out h0;obtain⟨A0,c0,HK0⟩:=kid_all (e:=o+k * 5) HK.out h0 rfl;obtain⟨k00,k01,k02,k03,k04,hna⟩:=HK0.out _ HX.out.below;obtain⟨hz,ha⟩:=HZ.out l[k] (List.getElem_mem hlt);have HT:=hid (dcs_take hlt);have hll:=dcs_le l (k+1);have hT2:=congrArg List.length HT.out;have hbn:(dcs (l.take k)).length<=1099511627776/\(Sy.D l[k]).length<=1099511627776:=by
     have:=HL.out;simp only [List.length_append,List.length_cons,List.length_nil] at hT2;omega
    obtain⟨hb1,hb2⟩:=hbn;have CE:=hid (fun W (hW:Below w.heap.size w W)=>rdecl_any l[k] _ W S hz ha (HK0.out W hW).2.2.2.2.2 hb2)
    clear hz ha h0 hna hll hT2;generalize dcs (l.take k)=acc at *;generalize l[k]=kd at *;generalize Sy.D kd=pk at *;have sm2:¬ 9223372036854775807 < acc.length+pk.length:=by omega
    have sm3:¬ 9223372036854775807 < acc.length+pk.length+1:=by omega
    go_wp2_with fail
    refine(CE.out _ HX.out.below).mono ?_;rintro e w2 ⟨rfl,hb⟩;replace HX:=hid (HX.out.step hb);clear hb;go_wp2_with fail;refine⟨⟨k+1,by omega,by go_num,by rw [HT.out];exact congrArg Value.string (by simp only [cat_mk,List.append_assoc]),HX.out⟩,?_⟩
    simp [intOf];omega
   ·
    have hk2:k=l.length:=by omega
    subst hk2;rw [List.take_length];obtain⟨s,hs⟩:∃ s,s=dcs l:=⟨_,rfl⟩;have HSE:=hid hs;rw [<- hs] at HO |-
    have hl:s.length<=1099511627776:=by rw [hs];exact HL.out
    clear hs HL;by_cases h16:16384 < s.length
    ·
     rw [if_pos h16] at HO;have h16':(16384:Int) < (s.length:Int):=by omega
     clear h16;go_wp2_with fail
     go_ret2
     exact⟨by rw [<- HSE.out,HO.out]<;>rfl,HX.out.below⟩
    ·
     rw [if_neg h16] at HO;have h16':¬ (16384:Int) < (s.length:Int):=by omega
     clear h16;go_wp2_with fail
     go_ret2
     exact⟨by rw [<- HSE.out,HO.out]<;>rfl,HX.out.below⟩
end Go.Proofs.YtgeppafcemeidaaGreatDoor
