/-
  Texts of a proof, joined: functions of the program and of its reference by contract, and what holds of trees, tokens and bytes.
-/
import Derived.Deep.Cut
import Derived.Test.YtgeppafcemeidaaGreatDoorJPA2
set_option linter.unusedVariables false
set_option linter.unusedSimpArgs false
set_option maxRecDepth 100000
set_option maxHeartbeats 8000000
namespace Go.Proofs.YtgeppafcemeidaaGreatDoor
open Go.RowKit
open Sy (N NT R Ev Run Pg fx hd body opnd inf RunN EvN nd nmd)
open Tk (T)
open Sy (Fin TB)
attribute [local go_sem ↓] Tryz.field0 Tryz.field1
def BkRel (n : Nat) (w : World) (g B0 B1 : Nat) (L : List T) (r : R) (wr : World) : Prop:=∃ m acc q A c,m < n /\ EvN m (.blockL acc) q r /\ Nb wr B1 53 [] 0 [] A acc.length c /\ OwnS wr (fun b => B0 < b /\ b ≠ B1) (.slice A acc.length c) acc /\ Pt wr g L q /\ Ch g w wr /\ Nb wr B0 0 [] 0 [] none 0 0 /\ acc.length + q.length <= L.length
theorem block_c (n : Nat) (H : AllS n) (l : List T) (r : R) (hE : EvN n .block l r) : CF 139 l r:=by
 intro g L w h
 have hlt:=h.lt
 obtain ⟨t,s,rfl⟩:=h.fin.ex
 rcases Sy.inv_tk (show RunN n (Sy.tk [123] (t :: s) fun r => .call (.blockL []) r .ret) r from hE) with ⟨h1,hE1⟩ | ⟨h1,rfl⟩
 ·
  obtain ⟨m2,hm2,hE2⟩:=Sy.inv_tail hE1
  have HE2:=hid hE2
  have hmn : m2 < n:=by omega
  have HH:=hid H
  have hlen0:=h.len.1
  clear hE hE1 hE2 hm2 H
  have HP : Hid (Pt (w.alloc zNode) g L (t :: s)):=h.below (bl _)
  have HC : Hid (Ch g w (w.alloc zNode)):=Ch.of_below (bl _)
  have HZ : Hid (Nb (w.alloc zNode) w.heap.size 0 [] 0 [] none 0 0):=Nb.zero
  have hz:=HZ.out.lt
  have hgl:=HP.out.lt
  clear h
  go_enter Tryz.func139,Tryz.ntmps139
  go_wp2_with fail
  refine (node_any 53 none 0 0 _).mono ?_
  rintro e w1 ⟨rfl,hb⟩
  have hk:=(KR.nil_ (w:=w1) (S:=fun b => w.heap.size < b))
  have hB : Below (w.alloc zNode).heap.size (w.alloc zNode) w1:=hb
  have hx:=gw3 HP.out HC.out HZ.out hB
  clear HP HC HZ hz hgl hB
  obtain ⟨HP,HC,HZ,hz,hgl⟩:=hx
  have NAY:=hid (na_nd (op:=53) (s:=[]) (n:=0) (t:=[]) (l:=[]) (by first | omega | (constructor <;> omega) | assumption) (by omega) (by first | assumption | simp | omega) (by first | assumption | simp | omega) (by simp) hk)
  clear hk hb
  unfold ndV
  have hB01 : w.heap.size < w1.heap.size:=hz
  have hgB1 : g < w1.heap.size:=hgl
  have hgHN : g < w1.heap.size:=hgl
  have hzHN : w.heap.size < w1.heap.size:=hz
  have HN : Hid (Nb (w1.alloc (.cells #[.int .i64 53,.string ⟨([]).toArray⟩,.int .i64 0,.string ⟨([]).toArray⟩,.slice none 0 0] 25)) w1.heap.size 53 ([]) 0 ([]) none 0 0):=Nb.new
  have hbx : Below w1.heap.size w1 (w1.alloc (.cells #[.int .i64 53,.string ⟨([]).toArray⟩,.int .i64 0,.string ⟨([]).toArray⟩,.slice none 0 0] 25)):=bl _
  replace NAY:=hid (NAY.out.below hbx)
  have hx:=gw3 HP.out HC.out HZ.out hbx
  clear HP HC HZ hz hgl hbx
  obtain ⟨HP,HC,HZ,hz,hgl⟩:=hx
  have HO : Hid (OwnS (w1.alloc (.cells #[.int .i64 53,.string ⟨([]).toArray⟩,.int .i64 0,.string ⟨([]).toArray⟩,.slice none 0 0] 25)) (fun b => w.heap.size < b /\ b ≠ w1.heap.size) (.slice none 0 0) []):=OwnS.nil_
  go_wp2_with fail
  refine mv3 (take_yes g L t s ⟨#[123]⟩ _ HP.out h1 (by decide)) HC.out HZ.out hlt ?_
  clear HP HC HZ hz hgl
  intro w2 HP HC HZ hz hgl hc
  replace HN:=hid (HN.out.ch hc (by omega))
  replace HO:=hid (HO.out.ch hc (by simp;omega))
  clear hc
  go_wp2_with fail
  go_loopw [9] (fun _ wr => BkRel n w g w.heap.size w1.heap.size L r wr) (fun _ wr => L.length - posP wr g)
  case atStart =>
   exact ⟨m2,[],s,none,0,hmn,HE2.out,HN.out,HO.out,HP.out,HC.out,HZ.out,by simp only [List.length_cons,List.length_nil] at *;omega⟩
  case round =>
   clear HP HC HZ HN HO HE2 hgl hz hmn hgHN hzHN hlen0
   obtain ⟨m3,acc,q3,A3,c3,hm3,hE3,hn3,ho3,hp3,hc3,hz3,hb3⟩:=hrel
   obtain ⟨t3,r3,rfl⟩:=hp3.fin.ex
   have hle3:=hp3.len
   have HMR:=hid hp3.pos
   have HP:=hid hp3
   have HC:=hid hc3
   have HZ:=hid hz3
   have HN:=hid hn3
   have HO:=hid ho3
   have hgl:=hp3.lt
   have hz:=hz3.lt
   have hn1:=hn3.lt
   clear hn3 ho3 hp3 hc3 hz3
   rcases Sy.inv_if (show RunN m3 (if fx (t3 :: r3) = [125] then .ret (.ok (nd 53 acc) r3) else Sy.cl .stmt (t3 :: r3) fun a r => .call (.blockL (acc ++ [a])) r .ret) r from hE3) with ⟨hf,hE4⟩ | ⟨hf,hE4⟩
   ·
    obtain rfl:=Sy.inv_ret hE4
    clear hE3 hE4 hm3
    go_wp2_with fail
    refine mv3 (skip_yes g L t3 r3 ⟨#[125]⟩ _ HP.out hf (by decide)) HC.out HZ.out hlt ?_
    clear HP HC HZ hz hgl
    intro w5 HP HC HZ hz hgl hc
    replace HN:=hid (HN.out.ch hc (by omega))
    replace HO:=hid (HO.out.ch hc (by simp;omega))
    replace hn1:=HN.out.lt
    clear hc
    have k0:=HN.out.c0
    have k1:=HN.out.c1
    have k2:=HN.out.c2
    have k3:=HN.out.c3
    have k4:=HN.out.c4
    have z0:=HZ.out.c0
    have f0:=HZ.out.free 0
    have z1:=HZ.out.c1
    have f1:=HZ.out.free 1
    have z2:=HZ.out.c2
    have f2:=HZ.out.free 2
    have z3:=HZ.out.c3
    have f3:=HZ.out.free 3
    have z4:=HZ.out.c4
    have f4:=HZ.out.free 4
    have NA4:=hid (na_nd (op:=53) (s:=[]) (n:=0) (t:=[]) (l:=acc) (by omega) (by omega) (by simp) (by simp) (by omega) (HO.out.kr.more (S':=fun b => w.heap.size < b) (fun b hb _ => hb.1)))
    go_wp2_with fail
    exact bodyPost_ret (v:=ndV 53 [] 0 [] A3 acc.length c3) (by simp [results,Tryz.results139,go_sem,ndV,z0,z1,z2,z3,z4,f0,f1,f2,f3,f4]) rfl (fin_st HP.out HC.out hlt NA4.out)
   ·
    obtain ⟨m4,hm4,hF4⟩:=Sy.inv_cl hE4
    rcases hF4 with ⟨q4,hF4,rfl⟩ | ⟨b4,q4,hF4,hE6⟩
    all_goals have C2:=hid (fun W (hW : Pt W g L (t3 :: r3)) => HH.out.stmt_ m4 (by omega) _ _ hF4 g L W hW)
    ·
     clear hE3 hE4 hF4 hm4 hm3
     go_wp2_with fail
     refine mv3 (skip_no g L t3 r3 ⟨#[125]⟩ _ HP.out hf) HC.out HZ.out hlt ?_
     clear HP HC HZ hz hgl
     intro w5 HP HC HZ hz hgl hc
     replace HN:=hid (HN.out.ch hc (by omega))
     replace HO:=hid (HO.out.ch hc (by simp;omega))
     replace hn1:=HN.out.lt
     clear hc
     go_wp2_with fail
     refine wp_region_any (by kernel_rfl) ?_
     change wpAny _ _ _ _ _ _ _ (World.drew _)
     have hbx : Below w5.heap.size w5 w5.drew:=(Below.refl _ _).drew
     replace HN:=hid (HN.out.below hbx)
     replace HO:=hid (HO.out.below hbx)
     have hx:=gw3 HP.out HC.out HZ.out hbx
     clear HP HC HZ hz hgl hbx
     obtain ⟨HP,HC,HZ,hz,hgl⟩:=hx
     replace hn1:=HN.out.lt
     refine wpAny_take (i:=0) (v:=?_) rfl (by kernel_rfl) (by kernel_rfl) (by kernel_rfl) (fun _ _ _ h => h) (Or.inl ⟨by rfl,?_⟩) ?_
     rotate_left
     ·
      intro w;go_simp
      first | done | with_reducible rfl
     try simp only [Act.put,y1,y2,y3,y4,y5,y6]
     refine wpAny_take (i:=2) (v:=?_) rfl (by kernel_rfl) (by kernel_rfl) (by kernel_rfl) (fun _ _ _ h => h) (Or.inl ⟨by rfl,?_⟩) ?_
     rotate_left
     ·
      intro w;go_simp
      first | done | with_reducible rfl
     try simp only [Act.put,y1,y2,y3,y4,y5,y6]
     refine wpAny_ready (rs:=[1,3]) (by kernel_rfl) (by simp) ?_
     refine AllReady.cons rfl (fun K hK => ?_) ?_
     have k4:=HN.out.c4
     go_simp
     refine hK _ _ ?_
     clear hK K
     try simp only [Act.put,y1,y2,y3,y4,y5,y6]
     have mm1 : True:=trivial
     rotate_left
     refine AllReady.cons rfl (fun K hK => ?_) AllReady.nil
     go_simp
     refine (C2.out _ HP.out).mono ?_
     intro e wx hp
     obtain ⟨rfl,hcx⟩:=hp
     exact ⟨rfl,rfl,HC.out.trans hcx⟩
     all_goals first
      | fail_if_success clear mm1
      |
       clear mm1
       refine wpAny_ready (rs:=[3]) (by kernel_rfl) (by simp) ?_
       refine AllReady.cons rfl (fun K hK => ?_) AllReady.nil
       go_simp
       refine (C2.out _ HP.out).mono ?_
       intro e wx hp
       obtain ⟨rfl,hcx⟩:=hp
       exact ⟨rfl,rfl,HC.out.trans hcx⟩
    ·
     have hq4 : q4.length < (t3 :: r3).length:=Sy.lt_stmt hF4.ev
     obtain ⟨m5,hm5,hE5⟩:=Sy.inv_tail hE6
     have HE5:=hid hE5
     have hmn5 : m5 < n:=by omega
     have hlm : acc.length <= 1000000:=by omega
     clear hE3 hE4 hF4 hm4 hm3 hE5 hE6 hm5
     go_wp2_with fail
     refine mv3 (skip_no g L t3 r3 ⟨#[125]⟩ _ HP.out hf) HC.out HZ.out hlt ?_
     clear HP HC HZ hz hgl
     intro w5 HP HC HZ hz hgl hc
     replace HN:=hid (HN.out.ch hc (by omega))
     replace HO:=hid (HO.out.ch hc (by simp;omega))
     replace hn1:=HN.out.lt
     clear hc
     go_wp2_with fail
     refine wp_region_any (by kernel_rfl) ?_
     change wpAny _ _ _ _ _ _ _ (World.drew _)
     have hbx : Below w5.heap.size w5 w5.drew:=(Below.refl _ _).drew
     replace HN:=hid (HN.out.below hbx)
     replace HO:=hid (HO.out.below hbx)
     have hx:=gw3 HP.out HC.out HZ.out hbx
     clear HP HC HZ hz hgl hbx
     obtain ⟨HP,HC,HZ,hz,hgl⟩:=hx
     replace hn1:=HN.out.lt
     refine wpAny_take (i:=0) (v:=?_) rfl (by kernel_rfl) (by kernel_rfl) (by kernel_rfl) (fun _ _ _ h => h) (Or.inl ⟨by rfl,?_⟩) ?_
     rotate_left
     ·
      intro w;go_simp
      first | done | with_reducible rfl
     try simp only [Act.put,y1,y2,y3,y4,y5,y6]
     refine wpAny_take (i:=2) (v:=?_) rfl (by kernel_rfl) (by kernel_rfl) (by kernel_rfl) (fun _ _ _ h => h) (Or.inl ⟨by rfl,?_⟩) ?_
     rotate_left
     ·
      intro w;go_simp
      first | done | with_reducible rfl
     try simp only [Act.put,y1,y2,y3,y4,y5,y6]
     refine wpAny_ready (rs:=[1,3]) (by kernel_rfl) (by simp) ?_
     refine AllReady.cons rfl (fun K hK => ?_) ?_
     have k4:=HN.out.c4
     go_simp
     refine hK _ _ ?_
     clear hK K
     try simp only [Act.put,y1,y2,y3,y4,y5,y6]
     have mm1 : True:=trivial
     rotate_left
     refine AllReady.cons rfl (fun K hK => ?_) AllReady.nil
     go_simp
     have HLT:=hid HO.out.ob
     have hzp:=hz
     have hnp : w1.heap.size < w5.drew.heap.size:=HN.out.lt
     refine ok3 (S':=fun b => w5.drew.heap.size <= b) (C2.out _ HP.out) HC.out HZ.out hlt (fun b hb => hb) ?_
     clear HP HC HZ hz hgl
     intro Ay cy w6 NAy HP HC HZ hz hgl hc
     replace HN:=hid (HN.out.ch hc (by omega))
     replace HO:=hid (HO.out.ch hc (by simp;omega))
     replace hn1:=HN.out.lt
     clear hc
     unfold ndV
     refine hK _ _ ?_
     clear hK K
     try simp only [Act.put,y1,y2,y3,y4,y5,y6]
     have mm2 : True:=trivial
     rotate_left
     all_goals first
      | fail_if_success clear mm1
      |
       clear mm1
       refine wpAny_ready (rs:=[3]) (by kernel_rfl) (by simp) ?_
       refine AllReady.cons rfl (fun K hK => ?_) AllReady.nil
       go_simp
       have HLT:=hid HO.out.ob
       have hzp:=hz
       have hnp : w1.heap.size < w5.drew.heap.size:=HN.out.lt
       refine ok3 (S':=fun b => w5.drew.heap.size <= b) (C2.out _ HP.out) HC.out HZ.out hlt (fun b hb => hb) ?_
       clear HP HC HZ hz hgl
       intro Ay cy w6 NAy HP HC HZ hz hgl hc
       replace HN:=hid (HN.out.ch hc (by omega))
       replace HO:=hid (HO.out.ch hc (by simp;omega))
       replace hn1:=HN.out.lt
       clear hc
       unfold ndV
       refine hK _ _ ?_
       clear hK K
       try simp only [Act.put,y1,y2,y3,y4,y5,y6]
       have mm3 : True:=trivial
       rotate_left
     all_goals first
      | fail_if_success clear mm2
      |
       clear mm2
       refine wpAny_ready (rs:=[1,4]) (by kernel_rfl) (by simp) ?_
       refine AllReady.cons rfl (fun K hK => ?_) ?_
       have k4:=HN.out.c4
       go_simp
       refine hK _ _ ?_
       clear hK K
       try simp only [Act.put,y1,y2,y3,y4,y5,y6]
       have mm3 : True:=trivial
       rotate_left
       refine AllReady.cons rfl (fun K hK => ?_) AllReady.nil
       go_simp
       refine hK _ _ ?_
       clear hK K
       try simp only [Act.put,y1,y2,y3,y4,y5,y6]
       have HPr:=HP
       have HCr:=HC
       have HZr:=HZ
       have HNr:=HN
       have HOr:=HO
       have NAr:=NAy
       have hzr:=hz
       have hnr : w1.heap.size < w6.heap.size:=HN.out.lt
       have hbx : Below w6.heap.size w6 (w6.alloc (.cells #[.int .i64 b4.op,.string ⟨b4.nm.toArray⟩,.int .i64 b4.n,.string ⟨b4.t.toArray⟩,.slice Ay b4.l.length cy] 25)):=bl _
       replace HN:=hid (HN.out.below hbx)
       replace NAy:=hid (NAy.out.below hbx)
       replace HO:=hid (HO.out.below hbx)
       have hx:=gw3 HP.out HC.out HZ.out hbx
       clear HP HC HZ hz hgl hbx
       obtain ⟨HP,HC,HZ,hz,hgl⟩:=hx
       replace hn1:=HN.out.lt
       have mm4 : True:=trivial
       rotate_left
     all_goals first
      | fail_if_success clear mm3
      |
       clear mm3
       refine wpAny_ready (rs:=[4]) (by kernel_rfl) (by simp) ?_
       refine AllReady.cons rfl (fun K hK => ?_) AllReady.nil
       go_simp
       refine hK _ _ ?_
       clear hK K
       try simp only [Act.put,y1,y2,y3,y4,y5,y6]
       have HPr:=HP
       have HCr:=HC
       have HZr:=HZ
       have HNr:=HN
       have HOr:=HO
       have NAr:=NAy
       have hzr:=hz
       have hnr : w1.heap.size < w6.heap.size:=HN.out.lt
       have hbx : Below w6.heap.size w6 (w6.alloc (.cells #[.int .i64 b4.op,.string ⟨b4.nm.toArray⟩,.int .i64 b4.n,.string ⟨b4.t.toArray⟩,.slice Ay b4.l.length cy] 25)):=bl _
       replace HN:=hid (HN.out.below hbx)
       replace NAy:=hid (NAy.out.below hbx)
       replace HO:=hid (HO.out.below hbx)
       have hx:=gw3 HP.out HC.out HZ.out hbx
       clear HP HC HZ hz hgl hbx
       obtain ⟨HP,HC,HZ,hz,hgl⟩:=hx
       replace hn1:=HN.out.lt
       have mm5 : True:=trivial
       rotate_left
     all_goals first
      | fail_if_success clear mm4
      |
       clear mm4
       refine wpAny_ready (rs:=[1]) (by kernel_rfl) (by simp) ?_
       refine AllReady.cons rfl (fun K hK => ?_) AllReady.nil
       have k4:=HN.out.c4
       go_simp
       refine hK _ _ ?_
       clear hK K
       try simp only [Act.put,y1,y2,y3,y4,y5,y6]
       have mm5 : True:=trivial
       rotate_left
     all_goals first
      | fail_if_success clear mm5
      |
       clear mm5
       refine wpAny_ready (rs:=[5]) (by kernel_rfl) (by simp) ?_
       refine AllReady.cons rfl (fun K hK => ?_) AllReady.nil
       refine step_appS2 (acc.length + 1) (by rfl) _ _ (by rfl) (.slice A3 acc.length c3) acc b4 #[.int .i64 b4.op,.string ⟨b4.nm.toArray⟩,.int .i64 b4.n,.string ⟨b4.t.toArray⟩,.slice Ay b4.l.length cy] (by rfl) HOr.out NAr.out (fun b hb hlt => ⟨⟨by have hb : w5.drew.heap.size <= b:=hb;omega,by have hb : w5.drew.heap.size <= b:=hb;omega⟩,fun e => by have:=(HLT.out b e).2;have hb : w5.drew.heap.size <= b:=hb;omega⟩) ⟨by omega,by omega⟩ (by rfl) hlm (by rfl) ?_
       intro A6 c6 w6 ho6 hg6
       replace HP:=hid (HPr.out.gr hg6 (fun j hj => by have:=(HLT.out j hj).1.1;omega))
       replace HC:=hid (HCr.out.gr hg6 (fun j hj => by have:=(HLT.out j hj).1.1;omega))
       replace HZ:=hid (HZr.out.gr hg6 (fun e => by have:=(HLT.out _ e).1.1;omega))
       replace HN:=hid (HNr.out.gr hg6 (fun e => (HLT.out _ e).1.2 rfl))
       replace HO:=hid ho6
       clear ho6 hg6 HPr HCr HZr HNr HOr NAr NAy HLT
       replace hz:=HZ.out.lt
       replace hgl:=HP.out.lt
       replace hn1:=HN.out.lt
       refine hK _ _ ?_
       clear hK K
       try simp only [Act.put,y1,y2,y3,y4,y5,y6]
       refine wpAny_take (i:=6) (v:=?_) rfl (by kernel_rfl) (by kernel_rfl) (by kernel_rfl) (fun _ _ _ h => h) (Or.inl ⟨by rfl,?_⟩) ?_
       rotate_left
       ·
        intro w;go_simp
        first | done | with_reducible rfl
       try simp only [Act.put,y1,y2,y3,y4,y5,y6]
       have mm6 : True:=trivial
       rotate_left
     all_goals first
      | fail_if_success clear mm6
      |
       clear mm6
       refine wpAny_ready (rs:=[7]) (by kernel_rfl) (by simp) ?_
       refine AllReady.cons rfl (fun K hK => ?_) AllReady.nil
       have k4:=HN.out.c4
       have f4:=HN.out.free 4
       go_simp
       refine hK _ _ ?_
       clear hK K
       try simp only [Act.put,y1,y2,y3,y4,y5,y6]
       have GN:=hid (HN.out.st1 (A':=A6) (m':=acc.length + 1) (c':=c6))
       have GC:=hid (Ch.set w6 w1.heap.size 4 (.slice A6 (acc.length + 1) c6))
       replace HP:=hid (HP.out.chk GC.out (by omega))
       replace HZ:=hid (HZ.out.ch GC.out (by omega))
       replace HO:=hid (HO.out.ch GC.out (by simp))
       replace HC:=hid (HC.out.new GC.out (by omega))
       replace HN:=GN
       clear GC k4 f4
       generalize (w6.setCell ⟨w1.heap.size,4,none⟩ (.slice A6 (acc.length + 1) c6)) = w7 at *
       replace hz:=HZ.out.lt
       replace hgl:=HP.out.lt
       replace hn1:=HN.out.lt
       refine wpAny_done (by kernel_rfl) ?_ _
       rotate_left
     all_goals
      have hpos:=HP.out.pos
      go_wp2_with fail
      refine ⟨⟨m5,acc ++ [b4],q4,A6,c6,hmn5,HE5.out,by simpa using HN.out,by simpa using HO.out,HP.out,HC.out,HZ.out,by simp only [List.length_cons,List.length_append,List.length_nil] at *;omega⟩,?_⟩
      rw [hpos,HMR.out]
      simp only [List.length_cons] at *
      omega
 ·
  clear hE H
  have HP : Hid (Pt (w.alloc zNode) g L (t :: s)):=h.below (bl _)
  have HC : Hid (Ch g w (w.alloc zNode)):=Ch.of_below (bl _)
  have HZ : Hid (Nb (w.alloc zNode) w.heap.size 0 [] 0 [] none 0 0):=Nb.zero
  have hz:=HZ.out.lt
  have hgl:=HP.out.lt
  clear h
  go_enter Tryz.func139,Tryz.ntmps139
  go_wp2_with fail
  refine (node_any 53 none 0 0 _).mono ?_
  rintro e w1 ⟨rfl,hb⟩
  have hk:=(KR.nil_ (w:=w1) (S:=fun b => w.heap.size < b))
  have hB : Below (w.alloc zNode).heap.size (w.alloc zNode) w1:=hb
  have hx:=gw3 HP.out HC.out HZ.out hB
  clear HP HC HZ hz hgl hB
  obtain ⟨HP,HC,HZ,hz,hgl⟩:=hx
  have NAY:=hid (na_nd (op:=53) (s:=[]) (n:=0) (t:=[]) (l:=[]) (by first | omega | (constructor <;> omega) | assumption) (by omega) (by first | assumption | simp | omega) (by first | assumption | simp | omega) (by simp) hk)
  clear hk hb
  unfold ndV
  have hB01 : w.heap.size < w1.heap.size:=hz
  have hgB1 : g < w1.heap.size:=hgl
  have hgHN : g < w1.heap.size:=hgl
  have hzHN : w.heap.size < w1.heap.size:=hz
  have HN : Hid (Nb (w1.alloc (.cells #[.int .i64 53,.string ⟨([]).toArray⟩,.int .i64 0,.string ⟨([]).toArray⟩,.slice none 0 0] 25)) w1.heap.size 53 ([]) 0 ([]) none 0 0):=Nb.new
  have hbx : Below w1.heap.size w1 (w1.alloc (.cells #[.int .i64 53,.string ⟨([]).toArray⟩,.int .i64 0,.string ⟨([]).toArray⟩,.slice none 0 0] 25)):=bl _
  replace NAY:=hid (NAY.out.below hbx)
  have hx:=gw3 HP.out HC.out HZ.out hbx
  clear HP HC HZ hz hgl hbx
  obtain ⟨HP,HC,HZ,hz,hgl⟩:=hx
  have HO : Hid (OwnS (w1.alloc (.cells #[.int .i64 53,.string ⟨([]).toArray⟩,.int .i64 0,.string ⟨([]).toArray⟩,.slice none 0 0] 25)) (fun b => w.heap.size < b /\ b ≠ w1.heap.size) (.slice none 0 0) []):=OwnS.nil_
  go_wp2_with fail
  refine (take_no g L t s ⟨#[123]⟩ _ HP.out h1).mono ?_
  intro e wz hp
  obtain ⟨rfl,hc⟩:=hp
  go_wp2_with fail
  exact ⟨rfl,rfl,HC.out.trans hc⟩
end Go.Proofs.YtgeppafcemeidaaGreatDoor
namespace Go.Proofs.YtgeppafcemeidaaGreatDoor
open Go.RowKit
open Sy (N NT R Ev Run Pg fx hd body opnd inf RunN EvN nd nmd)
open Tk (T)
open Sy (Fin TB)
attribute [local go_sem ↓] Tryz.field0 Tryz.field1
def PgRel (n : Nat) (w : World) (g B0 B1 : Nat) (L : List T) (r : R) (wr : World) : Prop:=∃ m acc q A c,m < n /\ EvN m (.progL acc) q r /\ Nb wr B1 60 [] 0 [] A acc.length c /\ OwnS wr (fun b => B0 < b /\ b ≠ B1) (.slice A acc.length c) acc /\ Pt wr g L q /\ Ch g w wr /\ Nb wr B0 0 [] 0 [] none 0 0 /\ acc.length + q.length <= L.length
theorem prog_c (n : Nat) (H : AllS n) (l : List T) (r : R) (hE : EvN n .prog l r) : CF 30 l r:=by
 intro g L w h
 have hlt:=h.lt
 obtain ⟨t,s,rfl⟩:=h.fin.ex
 have CN1:=hid (fun (t : T) (s : List T) W (hW : Pt W g L (t :: s)) => next_any g L t s W hW)
 unfold tkV at CN1
 obtain ⟨m2,hm2,hE2⟩:=Sy.inv_tail (show RunN n (.call (.progL []) (t :: s) .ret) r from hE)
 have HE2:=hid hE2
 have hmn : m2 < n:=by omega
 have HH:=hid H
 have hlen0:=h.len.1
 clear hE hE2 hm2 H
 have HP : Hid (Pt (w.alloc zNode) g L (t :: s)):=h.below (bl _)
 have HC : Hid (Ch g w (w.alloc zNode)):=Ch.of_below (bl _)
 have HZ : Hid (Nb (w.alloc zNode) w.heap.size 0 [] 0 [] none 0 0):=Nb.zero
 have hz:=HZ.out.lt
 have hgl:=HP.out.lt
 clear h
 go_enter Tryz.func30,Tryz.ntmps30
 go_wp2_with fail
 refine (node_any 60 none 0 0 _).mono ?_
 rintro e w1 ⟨rfl,hb⟩
 have hk:=(KR.nil_ (w:=w1) (S:=fun b => w.heap.size < b))
 have hB : Below (w.alloc zNode).heap.size (w.alloc zNode) w1:=hb
 have hx:=gw3 HP.out HC.out HZ.out hB
 clear HP HC HZ hz hgl hB
 obtain ⟨HP,HC,HZ,hz,hgl⟩:=hx
 have NAY:=hid (na_nd (op:=60) (s:=[]) (n:=0) (t:=[]) (l:=[]) (by first | omega | (constructor <;> omega) | assumption) (by omega) (by first | assumption | simp | omega) (by first | assumption | simp | omega) (by simp) hk)
 clear hk hb
 unfold ndV
 have hB01 : w.heap.size < w1.heap.size:=hz
 have hgB1 : g < w1.heap.size:=hgl
 have hgHN : g < w1.heap.size:=hgl
 have hzHN : w.heap.size < w1.heap.size:=hz
 have HN : Hid (Nb (w1.alloc (.cells #[.int .i64 60,.string ⟨([]).toArray⟩,.int .i64 0,.string ⟨([]).toArray⟩,.slice none 0 0] 25)) w1.heap.size 60 ([]) 0 ([]) none 0 0):=Nb.new
 have hbx : Below w1.heap.size w1 (w1.alloc (.cells #[.int .i64 60,.string ⟨([]).toArray⟩,.int .i64 0,.string ⟨([]).toArray⟩,.slice none 0 0] 25)):=bl _
 replace NAY:=hid (NAY.out.below hbx)
 have hx:=gw3 HP.out HC.out HZ.out hbx
 clear HP HC HZ hz hgl hbx
 obtain ⟨HP,HC,HZ,hz,hgl⟩:=hx
 have HO : Hid (OwnS (w1.alloc (.cells #[.int .i64 60,.string ⟨([]).toArray⟩,.int .i64 0,.string ⟨([]).toArray⟩,.slice none 0 0] 25)) (fun b => w.heap.size < b /\ b ≠ w1.heap.size) (.slice none 0 0) []):=OwnS.nil_
 go_wp2_with fail
 go_loopw [6] (fun _ wr => PgRel n w g w.heap.size w1.heap.size L r wr) (fun _ wr => L.length - posP wr g)
 case atStart =>
  exact ⟨m2,[],t :: s,none,0,hmn,HE2.out,HN.out,HO.out,HP.out,HC.out,HZ.out,by simp only [List.length_cons,List.length_nil] at *;omega⟩
 case round =>
  clear HP HC HZ HN HO HE2 hgl hz hmn hgHN hzHN hlen0
  obtain ⟨m3,acc,q3,A3,c3,hm3,hE3,hn3,ho3,hp3,hc3,hz3,hb3⟩:=hrel
  obtain ⟨t3,r3,rfl⟩:=hp3.fin.ex
  have hle3:=hp3.len
  have HMR:=hid hp3.pos
  have HP:=hid hp3
  have HC:=hid hc3
  have HZ:=hid hz3
  have HN:=hid hn3
  have HO:=hid ho3
  have hgl:=hp3.lt
  have hz:=hz3.lt
  have hn1:=hn3.lt
  clear hn3 ho3 hp3 hc3 hz3
  rcases Sy.inv_if (show RunN m3 (if t3.k = 0 then .ret (.ok (nd 60 acc) (t3 :: r3)) else Sy.cl .decl (t3 :: r3) fun a r => .call (.progL (acc ++ [a])) r .ret) r from hE3) with ⟨hf,hE4⟩ | ⟨hf,hE4⟩
  ·
   obtain rfl:=Sy.inv_ret hE4
   have hb0 : (t3.k == 0) = true:=by simpa using hf
   have hb0n : (t3.k != 0) = false:=by simpa using hf
   clear hE3 hE4 hm3 hf
   go_wp2_with fail
   refine qt3 (CN1.out t3 r3 _ HP.out) HP.out HC.out HZ.out ?_
   clear HP HC HZ hz hgl
   intro w5 HP HC HZ hz hgl hc
   replace HN:=hid (HN.out.below hc)
   replace HO:=hid (HO.out.below hc)
   replace hn1:=HN.out.lt
   clear hc
   have k0:=HN.out.c0
   have k1:=HN.out.c1
   have k2:=HN.out.c2
   have k3:=HN.out.c3
   have k4:=HN.out.c4
   have z0:=HZ.out.c0
   have f0:=HZ.out.free 0
   have z1:=HZ.out.c1
   have f1:=HZ.out.free 1
   have z2:=HZ.out.c2
   have f2:=HZ.out.free 2
   have z3:=HZ.out.c3
   have f3:=HZ.out.free 3
   have z4:=HZ.out.c4
   have f4:=HZ.out.free 4
   have NA4:=hid (na_nd (op:=60) (s:=[]) (n:=0) (t:=[]) (l:=acc) (by omega) (by omega) (by simp) (by simp) (by omega) (HO.out.kr.more (S':=fun b => w.heap.size < b) (fun b hb _ => hb.1)))
   go_wp2_with fail
   exact bodyPost_ret (v:=ndV 60 [] 0 [] A3 acc.length c3) (by simp [results,Tryz.results30,go_sem,ndV,z0,z1,z2,z3,z4,f0,f1,f2,f3,f4]) rfl (fin_st HP.out HC.out hlt NA4.out)
  ·
   have hb0 : (t3.k == 0) = false:=by simpa using hf
   have hb0n : (t3.k != 0) = true:=by simpa using hf
   clear hf
   obtain ⟨m4,hm4,hF4⟩:=Sy.inv_cl hE4
   rcases hF4 with ⟨q4,hF4,rfl⟩ | ⟨b4,q4,hF4,hE6⟩
   all_goals have C2:=hid (fun W (hW : Pt W g L (t3 :: r3)) => HH.out.decl_ m4 (by omega) _ _ hF4 g L W hW)
   ·
    clear hE3 hE4 hF4 hm4 hm3
    go_wp2_with fail
    refine qt3 (CN1.out t3 r3 _ HP.out) HP.out HC.out HZ.out ?_
    clear HP HC HZ hz hgl
    intro w5 HP HC HZ hz hgl hc
    replace HN:=hid (HN.out.below hc)
    replace HO:=hid (HO.out.below hc)
    replace hn1:=HN.out.lt
    clear hc
    go_wp2_with fail
    refine wp_region_any (by kernel_rfl) ?_
    change wpAny _ _ _ _ _ _ _ (World.drew _)
    have hbx : Below w5.heap.size w5 w5.drew:=(Below.refl _ _).drew
    replace HN:=hid (HN.out.below hbx)
    replace HO:=hid (HO.out.below hbx)
    have hx:=gw3 HP.out HC.out HZ.out hbx
    clear HP HC HZ hz hgl hbx
    obtain ⟨HP,HC,HZ,hz,hgl⟩:=hx
    replace hn1:=HN.out.lt
    refine wpAny_take (i:=0) (v:=?_) rfl (by kernel_rfl) (by kernel_rfl) (by kernel_rfl) (fun _ _ _ h => h) (Or.inl ⟨by rfl,?_⟩) ?_
    rotate_left
    ·
     intro w;go_simp
     first | done | with_reducible rfl
    try simp only [Act.put,y1,y2,y3,y4,y5,y6]
    refine wpAny_take (i:=2) (v:=?_) rfl (by kernel_rfl) (by kernel_rfl) (by kernel_rfl) (fun _ _ _ h => h) (Or.inl ⟨by rfl,?_⟩) ?_
    rotate_left
    ·
     intro w;go_simp
     first | done | with_reducible rfl
    try simp only [Act.put,y1,y2,y3,y4,y5,y6]
    refine wpAny_ready (rs:=[1,3]) (by kernel_rfl) (by simp) ?_
    refine AllReady.cons rfl (fun K hK => ?_) ?_
    have k4:=HN.out.c4
    go_simp
    refine hK _ _ ?_
    clear hK K
    try simp only [Act.put,y1,y2,y3,y4,y5,y6]
    have mm1 : True:=trivial
    rotate_left
    refine AllReady.cons rfl (fun K hK => ?_) AllReady.nil
    go_simp
    refine (C2.out _ HP.out).mono ?_
    intro e wx hp
    obtain ⟨rfl,hcx⟩:=hp
    exact ⟨rfl,rfl,HC.out.trans hcx⟩
    all_goals first
     | fail_if_success clear mm1
     |
      clear mm1
      refine wpAny_ready (rs:=[3]) (by kernel_rfl) (by simp) ?_
      refine AllReady.cons rfl (fun K hK => ?_) AllReady.nil
      go_simp
      refine (C2.out _ HP.out).mono ?_
      intro e wx hp
      obtain ⟨rfl,hcx⟩:=hp
      exact ⟨rfl,rfl,HC.out.trans hcx⟩
   ·
    have hq4 : q4.length < (t3 :: r3).length:=Sy.lt_decl hF4.ev
    obtain ⟨m5,hm5,hE5⟩:=Sy.inv_tail hE6
    have HE5:=hid hE5
    have hmn5 : m5 < n:=by omega
    have hlm : acc.length <= 1000000:=by omega
    clear hE3 hE4 hF4 hm4 hm3 hE5 hE6 hm5
    go_wp2_with fail
    refine qt3 (CN1.out t3 r3 _ HP.out) HP.out HC.out HZ.out ?_
    clear HP HC HZ hz hgl
    intro w5 HP HC HZ hz hgl hc
    replace HN:=hid (HN.out.below hc)
    replace HO:=hid (HO.out.below hc)
    replace hn1:=HN.out.lt
    clear hc
    go_wp2_with fail
    refine wp_region_any (by kernel_rfl) ?_
    change wpAny _ _ _ _ _ _ _ (World.drew _)
    have hbx : Below w5.heap.size w5 w5.drew:=(Below.refl _ _).drew
    replace HN:=hid (HN.out.below hbx)
    replace HO:=hid (HO.out.below hbx)
    have hx:=gw3 HP.out HC.out HZ.out hbx
    clear HP HC HZ hz hgl hbx
    obtain ⟨HP,HC,HZ,hz,hgl⟩:=hx
    replace hn1:=HN.out.lt
    refine wpAny_take (i:=0) (v:=?_) rfl (by kernel_rfl) (by kernel_rfl) (by kernel_rfl) (fun _ _ _ h => h) (Or.inl ⟨by rfl,?_⟩) ?_
    rotate_left
    ·
     intro w;go_simp
     first | done | with_reducible rfl
    try simp only [Act.put,y1,y2,y3,y4,y5,y6]
    refine wpAny_take (i:=2) (v:=?_) rfl (by kernel_rfl) (by kernel_rfl) (by kernel_rfl) (fun _ _ _ h => h) (Or.inl ⟨by rfl,?_⟩) ?_
    rotate_left
    ·
     intro w;go_simp
     first | done | with_reducible rfl
    try simp only [Act.put,y1,y2,y3,y4,y5,y6]
    refine wpAny_ready (rs:=[1,3]) (by kernel_rfl) (by simp) ?_
    refine AllReady.cons rfl (fun K hK => ?_) ?_
    have k4:=HN.out.c4
    go_simp
    refine hK _ _ ?_
    clear hK K
    try simp only [Act.put,y1,y2,y3,y4,y5,y6]
    have mm1 : True:=trivial
    rotate_left
    refine AllReady.cons rfl (fun K hK => ?_) AllReady.nil
    go_simp
    have HLT:=hid HO.out.ob
    have hzp:=hz
    have hnp : w1.heap.size < w5.drew.heap.size:=HN.out.lt
    refine ok3 (S':=fun b => w5.drew.heap.size <= b) (C2.out _ HP.out) HC.out HZ.out hlt (fun b hb => hb) ?_
    clear HP HC HZ hz hgl
    intro Ay cy w6 NAy HP HC HZ hz hgl hc
    replace HN:=hid (HN.out.ch hc (by omega))
    replace HO:=hid (HO.out.ch hc (by simp;omega))
    replace hn1:=HN.out.lt
    clear hc
    unfold ndV
    refine hK _ _ ?_
    clear hK K
    try simp only [Act.put,y1,y2,y3,y4,y5,y6]
    have mm2 : True:=trivial
    rotate_left
    all_goals first
     | fail_if_success clear mm1
     |
      clear mm1
      refine wpAny_ready (rs:=[3]) (by kernel_rfl) (by simp) ?_
      refine AllReady.cons rfl (fun K hK => ?_) AllReady.nil
      go_simp
      have HLT:=hid HO.out.ob
      have hzp:=hz
      have hnp : w1.heap.size < w5.drew.heap.size:=HN.out.lt
      refine ok3 (S':=fun b => w5.drew.heap.size <= b) (C2.out _ HP.out) HC.out HZ.out hlt (fun b hb => hb) ?_
      clear HP HC HZ hz hgl
      intro Ay cy w6 NAy HP HC HZ hz hgl hc
      replace HN:=hid (HN.out.ch hc (by omega))
      replace HO:=hid (HO.out.ch hc (by simp;omega))
      replace hn1:=HN.out.lt
      clear hc
      unfold ndV
      refine hK _ _ ?_
      clear hK K
      try simp only [Act.put,y1,y2,y3,y4,y5,y6]
      have mm3 : True:=trivial
      rotate_left
    all_goals first
     | fail_if_success clear mm2
     |
      clear mm2
      refine wpAny_ready (rs:=[1,4]) (by kernel_rfl) (by simp) ?_
      refine AllReady.cons rfl (fun K hK => ?_) ?_
      have k4:=HN.out.c4
      go_simp
      refine hK _ _ ?_
      clear hK K
      try simp only [Act.put,y1,y2,y3,y4,y5,y6]
      have mm3 : True:=trivial
      rotate_left
      refine AllReady.cons rfl (fun K hK => ?_) AllReady.nil
      go_simp
      refine hK _ _ ?_
      clear hK K
      try simp only [Act.put,y1,y2,y3,y4,y5,y6]
      have HPr:=HP
      have HCr:=HC
      have HZr:=HZ
      have HNr:=HN
      have HOr:=HO
      have NAr:=NAy
      have hzr:=hz
      have hnr : w1.heap.size < w6.heap.size:=HN.out.lt
      have hbx : Below w6.heap.size w6 (w6.alloc (.cells #[.int .i64 b4.op,.string ⟨b4.nm.toArray⟩,.int .i64 b4.n,.string ⟨b4.t.toArray⟩,.slice Ay b4.l.length cy] 25)):=bl _
      replace HN:=hid (HN.out.below hbx)
      replace NAy:=hid (NAy.out.below hbx)
      replace HO:=hid (HO.out.below hbx)
      have hx:=gw3 HP.out HC.out HZ.out hbx
      clear HP HC HZ hz hgl hbx
      obtain ⟨HP,HC,HZ,hz,hgl⟩:=hx
      replace hn1:=HN.out.lt
      have mm4 : True:=trivial
      rotate_left
    all_goals first
     | fail_if_success clear mm3
     |
      clear mm3
      refine wpAny_ready (rs:=[4]) (by kernel_rfl) (by simp) ?_
      refine AllReady.cons rfl (fun K hK => ?_) AllReady.nil
      go_simp
      refine hK _ _ ?_
      clear hK K
      try simp only [Act.put,y1,y2,y3,y4,y5,y6]
      have HPr:=HP
      have HCr:=HC
      have HZr:=HZ
      have HNr:=HN
      have HOr:=HO
      have NAr:=NAy
      have hzr:=hz
      have hnr : w1.heap.size < w6.heap.size:=HN.out.lt
      have hbx : Below w6.heap.size w6 (w6.alloc (.cells #[.int .i64 b4.op,.string ⟨b4.nm.toArray⟩,.int .i64 b4.n,.string ⟨b4.t.toArray⟩,.slice Ay b4.l.length cy] 25)):=bl _
      replace HN:=hid (HN.out.below hbx)
      replace NAy:=hid (NAy.out.below hbx)
      replace HO:=hid (HO.out.below hbx)
      have hx:=gw3 HP.out HC.out HZ.out hbx
      clear HP HC HZ hz hgl hbx
      obtain ⟨HP,HC,HZ,hz,hgl⟩:=hx
      replace hn1:=HN.out.lt
      have mm5 : True:=trivial
      rotate_left
    all_goals first
     | fail_if_success clear mm4
     |
      clear mm4
      refine wpAny_ready (rs:=[1]) (by kernel_rfl) (by simp) ?_
      refine AllReady.cons rfl (fun K hK => ?_) AllReady.nil
      have k4:=HN.out.c4
      go_simp
      refine hK _ _ ?_
      clear hK K
      try simp only [Act.put,y1,y2,y3,y4,y5,y6]
      have mm5 : True:=trivial
      rotate_left
    all_goals first
     | fail_if_success clear mm5
     |
      clear mm5
      refine wpAny_ready (rs:=[5]) (by kernel_rfl) (by simp) ?_
      refine AllReady.cons rfl (fun K hK => ?_) AllReady.nil
      refine step_appS2 (acc.length + 1) (by rfl) _ _ (by rfl) (.slice A3 acc.length c3) acc b4 #[.int .i64 b4.op,.string ⟨b4.nm.toArray⟩,.int .i64 b4.n,.string ⟨b4.t.toArray⟩,.slice Ay b4.l.length cy] (by rfl) HOr.out NAr.out (fun b hb hlt => ⟨⟨by have hb : w5.drew.heap.size <= b:=hb;omega,by have hb : w5.drew.heap.size <= b:=hb;omega⟩,fun e => by have:=(HLT.out b e).2;have hb : w5.drew.heap.size <= b:=hb;omega⟩) ⟨by omega,by omega⟩ (by rfl) hlm (by rfl) ?_
      intro A6 c6 w6 ho6 hg6
      replace HP:=hid (HPr.out.gr hg6 (fun j hj => by have:=(HLT.out j hj).1.1;omega))
      replace HC:=hid (HCr.out.gr hg6 (fun j hj => by have:=(HLT.out j hj).1.1;omega))
      replace HZ:=hid (HZr.out.gr hg6 (fun e => by have:=(HLT.out _ e).1.1;omega))
      replace HN:=hid (HNr.out.gr hg6 (fun e => (HLT.out _ e).1.2 rfl))
      replace HO:=hid ho6
      clear ho6 hg6 HPr HCr HZr HNr HOr NAr NAy HLT
      replace hz:=HZ.out.lt
      replace hgl:=HP.out.lt
      replace hn1:=HN.out.lt
      refine hK _ _ ?_
      clear hK K
      try simp only [Act.put,y1,y2,y3,y4,y5,y6]
      refine wpAny_take (i:=6) (v:=?_) rfl (by kernel_rfl) (by kernel_rfl) (by kernel_rfl) (fun _ _ _ h => h) (Or.inl ⟨by rfl,?_⟩) ?_
      rotate_left
      ·
       intro w;go_simp
       first | done | with_reducible rfl
      try simp only [Act.put,y1,y2,y3,y4,y5,y6]
      have mm6 : True:=trivial
      rotate_left
    all_goals first
     | fail_if_success clear mm6
     |
      clear mm6
      refine wpAny_ready (rs:=[7]) (by kernel_rfl) (by simp) ?_
      refine AllReady.cons rfl (fun K hK => ?_) AllReady.nil
      have k4:=HN.out.c4
      have f4:=HN.out.free 4
      go_simp
      refine hK _ _ ?_
      clear hK K
      try simp only [Act.put,y1,y2,y3,y4,y5,y6]
      have GN:=hid (HN.out.st1 (A':=A6) (m':=acc.length + 1) (c':=c6))
      have GC:=hid (Ch.set w6 w1.heap.size 4 (.slice A6 (acc.length + 1) c6))
      replace HP:=hid (HP.out.chk GC.out (by omega))
      replace HZ:=hid (HZ.out.ch GC.out (by omega))
      replace HO:=hid (HO.out.ch GC.out (by simp))
      replace HC:=hid (HC.out.new GC.out (by omega))
      replace HN:=GN
      clear GC k4 f4
      generalize (w6.setCell ⟨w1.heap.size,4,none⟩ (.slice A6 (acc.length + 1) c6)) = w7 at *
      replace hz:=HZ.out.lt
      replace hgl:=HP.out.lt
      replace hn1:=HN.out.lt
      refine wpAny_done (by kernel_rfl) ?_ _
      rotate_left
    all_goals
     have hpos:=HP.out.pos
     go_wp2_with fail
     refine ⟨⟨m5,acc ++ [b4],q4,A6,c6,hmn5,HE5.out,by simpa using HN.out,by simpa using HO.out,HP.out,HC.out,HZ.out,by simp only [List.length_cons,List.length_append,List.length_nil] at *;omega⟩,?_⟩
     rw [hpos,HMR.out]
     simp only [List.length_cons] at *
     omega
end Go.Proofs.YtgeppafcemeidaaGreatDoor
namespace Go.Proofs.YtgeppafcemeidaaGreatDoor
open Go.RowKit
open Sy (N NT R Ev Run Pg fx hd body opnd inf RunN EvN nd nmd)
open Tk (T)
open Sy (Fin TB)
attribute [local go_sem ↓] Tryz.field0 Tryz.field1
theorem cond_c (n : Nat) (H : AllS n) (l : List T) (r : R) (hE : EvN n .cond l r) : CF 196 l r:=by
 intro g L w h
 have hlt:=h.lt
 obtain ⟨t,s,rfl⟩:=h.fin.ex
 have HH:=hid H
 obtain ⟨m,hm,hF⟩:=Sy.inv_cl (show RunN n (Sy.cl (.chain 1) (t :: s) fun a r => Sy.cl .block r fun b r =>
  if fx r = [101,108,115,101] then
   (if fx r.tail = [105,102] then Sy.cl .cond r.tail.tail fun c r => .ret (.ok (nd 42 [a,b,c]) r) else Sy.cl .block r.tail fun c r => .ret (.ok (nd 42 [a,b,c]) r))
  else .ret (.ok (nd 42 [a,b]) r)) r from hE)
 rcases hF with ⟨q,hF,rfl⟩ | ⟨a,q,hF,hE2⟩
 all_goals have C:=hid (fun W (hW : Pt W g L (t :: s)) => expr_e m _ _ hF g L W hW)
 all_goals clear hE hF H
 ·
  clear hm HH
  have HP : Hid (Pt (w.alloc zNode) g L (t :: s)):=h.below (bl _)
  have HC : Hid (Ch g w (w.alloc zNode)):=Ch.of_below (bl _)
  have HZ : Hid (Nb (w.alloc zNode) w.heap.size 0 [] 0 [] none 0 0):=Nb.zero
  have hz:=HZ.out.lt
  have hgl:=HP.out.lt
  clear h
  go_enter Tryz.func196,Tryz.ntmps196
  go_wp2_with fail
  refine (C.out _ HP.out).mono ?_
  intro e wz hp
  obtain ⟨rfl,hc⟩:=hp
  go_wp2_with fail
  exact ⟨rfl,rfl,HC.out.trans hc⟩
 ·
  obtain ⟨m2,hm2,hF2⟩:=Sy.inv_cl hE2
  rcases hF2 with ⟨q2,hF2,rfl⟩ | ⟨b,q2,hF2,hE3⟩
  all_goals have C2:=hid (fun W (hW : Pt W g L q) => HH.out.block_ m2 (by omega) _ _ hF2 g L W hW)
  all_goals clear hF2 hE2
  ·
   clear hm hm2 HH
   have HP : Hid (Pt (w.alloc zNode) g L (t :: s)):=h.below (bl _)
   have HC : Hid (Ch g w (w.alloc zNode)):=Ch.of_below (bl _)
   have HZ : Hid (Nb (w.alloc zNode) w.heap.size 0 [] 0 [] none 0 0):=Nb.zero
   have hz:=HZ.out.lt
   have hgl:=HP.out.lt
   clear h
   go_enter Tryz.func196,Tryz.ntmps196
   go_wp2_with fail
   refine ok3 (S':=fun b => w.heap.size < b) (C.out _ HP.out) HC.out HZ.out hlt (fun b hb => Nat.lt_of_lt_of_le hz hb) ?_
   clear HP HC HZ hz hgl
   intro Ax cx w1 NAx HP HC HZ hz hgl hc
   clear hc
   unfold ndV
   go_wp2_with fail
   refine (C2.out _ HP.out).mono ?_
   intro e wz hp
   obtain ⟨rfl,hc⟩:=hp
   go_wp2_with fail
   exact ⟨rfl,rfl,HC.out.trans hc⟩
  ·
   have hmn : m2 < n:=by omega
   clear hm hm2
   have HP : Hid (Pt (w.alloc zNode) g L (t :: s)):=h.below (bl _)
   have HC : Hid (Ch g w (w.alloc zNode)):=Ch.of_below (bl _)
   have HZ : Hid (Nb (w.alloc zNode) w.heap.size 0 [] 0 [] none 0 0):=Nb.zero
   have hz:=HZ.out.lt
   have hgl:=HP.out.lt
   clear h
   go_enter Tryz.func196,Tryz.ntmps196
   go_wp2_with fail
   refine ok3 (S':=fun b => w.heap.size < b) (C.out _ HP.out) HC.out HZ.out hlt (fun b hb => Nat.lt_of_lt_of_le hz hb) ?_
   clear HP HC HZ hz hgl
   intro Ax cx w1 NAx HP HC HZ hz hgl hc
   clear hc
   unfold ndV
   go_wp2_with fail
   refine ok3 (S':=fun b => w.heap.size < b) (C2.out _ HP.out) HC.out HZ.out hlt (fun b hb => Nat.lt_of_lt_of_le hz hb) ?_
   clear HP HC HZ hz hgl
   intro Ay cy w2 NAy HP HC HZ hz hgl hc
   replace NAx:=hid (NAx.out.ch hc (by simp;omega))
   clear hc
   unfold ndV
   go_wp2_with fail
   refine (node_any 42 _ _ _ _).mono ?_
   rintro e w3 ⟨rfl,hb⟩
   have hO:=(OwnS.two_ NAx.out NAy.out (S:=fun b => w.heap.size < b) hz #[.int .i64 a.op,.string ⟨a.nm.toArray⟩,.int .i64 a.n,.string ⟨a.t.toArray⟩,.slice Ax a.l.length cx,.int .i64 b.op,.string ⟨b.nm.toArray⟩,.int .i64 b.n,.string ⟨b.t.toArray⟩,.slice Ay b.l.length cy] (by rfl)).below hb
   have HO:=hid (hO.more (S':=fun b => w.heap.size < b /\ b ≠ w3.heap.size) (fun b hb hlt => ⟨hb,by omega⟩))
   have hB : Below w2.heap.size w2 w3:=(bl _).trans (hb.mono (by simp))
   replace HP:=hid (HP.out.below hB)
   replace HC:=hid (HC.out.trans (Ch.of_below hB))
   replace NAx:=hid (NAx.out.below hB)
   replace NAy:=hid (NAy.out.below hB)
   replace HZ:=hid (HZ.out.below hB)
   replace hz:=HZ.out.lt
   replace hgl:=HP.out.lt
   clear hO hb hB NAx NAy
   unfold ndV
   have hgHN : g < w3.heap.size:=hgl
   have hzHN : w.heap.size < w3.heap.size:=hz
   have HN : Hid (Nb (w3.alloc (.cells #[.int .i64 42,.string ⟨([]).toArray⟩,.int .i64 0,.string ⟨([]).toArray⟩,.slice (some ⟨w2.heap.size,0,none⟩) 2 2] 25)) w3.heap.size 42 ([]) 0 ([]) (some ⟨w2.heap.size,0,none⟩) 2 2):=Nb.new
   have hbx : Below w3.heap.size w3 (w3.alloc (.cells #[.int .i64 42,.string ⟨([]).toArray⟩,.int .i64 0,.string ⟨([]).toArray⟩,.slice (some ⟨w2.heap.size,0,none⟩) 2 2] 25)):=bl _
   replace HO:=hid (HO.out.below hbx)
   have hx:=gw3 HP.out HC.out HZ.out hbx
   clear HP HC HZ hz hgl hbx
   obtain ⟨HP,HC,HZ,hz,hgl⟩:=hx
   go_wp2_with fail
   obtain ⟨u,z,rfl⟩:=HP.out.fin.ex
   rcases Sy.inv_if hE3 with ⟨h5,hE4⟩ | ⟨h5,hE4⟩
   ·
    have hf2:=HP.out.fin.tail (Sy.fx_k h5 (by decide))
    obtain ⟨u2,z2,rfl⟩:=hf2.ex
    clear hf2
    refine mv3 (skip_yes g L u (u2 :: z2) ⟨#[101,108,115,101]⟩ _ HP.out h5 (by decide)) HC.out HZ.out hlt ?_
    clear HP HC HZ hz hgl
    intro w4 HP HC HZ hz hgl hc
    replace HN:=hid (HN.out.ch hc (by omega))
    replace HO:=hid (HO.out.ch hc (by simp;omega))
    clear hc
    go_wp2_with fail
    rcases Sy.inv_if hE4 with ⟨h6,hE5⟩ | ⟨h6,hE5⟩
    ·
     refine mv3 (skip_yes g L u2 z2 ⟨#[105,102]⟩ _ HP.out h6 (by decide)) HC.out HZ.out hlt ?_
     clear HP HC HZ hz hgl
     intro w5 HP HC HZ hz hgl hc
     replace HN:=hid (HN.out.ch hc (by omega))
     replace HO:=hid (HO.out.ch hc (by simp;omega))
     clear hc
     go_wp2_with fail
     obtain ⟨m3,hm3,hF3⟩:=Sy.inv_cl hE5
     rcases hF3 with ⟨q3,hF3,rfl⟩ | ⟨d3,q3,hF3,hE6⟩
     all_goals have C3:=hid (fun W (hW : Pt W g L z2) => HH.out.cond_ m3 (by omega) _ _ hF3 g L W hW)
     all_goals clear hF3 hE3 hE4 hE5 hm3
     ·
      refine wp_region_any (by kernel_rfl) ?_
      change wpAny _ _ _ _ _ _ _ (World.drew _)
      have hbx : Below w5.heap.size w5 w5.drew:=(Below.refl _ _).drew
      replace HN:=hid (HN.out.below hbx)
      replace HO:=hid (HO.out.below hbx)
      have hx:=gw3 HP.out HC.out HZ.out hbx
      clear HP HC HZ hz hgl hbx
      obtain ⟨HP,HC,HZ,hz,hgl⟩:=hx
      refine wpAny_take (i:=0) (v:=?_) rfl (by kernel_rfl) (by kernel_rfl) (by kernel_rfl) (fun _ _ _ h => h) (Or.inl ⟨by rfl,?_⟩) ?_
      rotate_left
      ·
       intro w;go_simp
       first | done | with_reducible rfl
      try simp only [Act.put,y1,y2,y3,y4,y5,y6]
      refine wpAny_take (i:=2) (v:=?_) rfl (by kernel_rfl) (by kernel_rfl) (by kernel_rfl) (fun _ _ _ h => h) (Or.inl ⟨by rfl,?_⟩) ?_
      rotate_left
      ·
       intro w;go_simp
       first | done | with_reducible rfl
      try simp only [Act.put,y1,y2,y3,y4,y5,y6]
      refine wpAny_ready (rs:=[1,3]) (by kernel_rfl) (by simp) ?_
      refine AllReady.cons rfl (fun K hK => ?_) ?_
      have k4:=HN.out.c4
      go_simp
      refine hK _ _ ?_
      clear hK K
      try simp only [Act.put,y1,y2,y3,y4,y5,y6]
      have mm1 : True:=trivial
      rotate_left
      refine AllReady.cons rfl (fun K hK => ?_) AllReady.nil
      go_simp
      refine (C3.out _ HP.out).mono ?_
      intro e wx hp
      obtain ⟨rfl,hcx⟩:=hp
      exact ⟨rfl,rfl,HC.out.trans hcx⟩
      all_goals first
       | fail_if_success clear mm1
       |
        clear mm1
        refine wpAny_ready (rs:=[3]) (by kernel_rfl) (by simp) ?_
        refine AllReady.cons rfl (fun K hK => ?_) AllReady.nil
        go_simp
        refine (C3.out _ HP.out).mono ?_
        intro e wx hp
        obtain ⟨rfl,hcx⟩:=hp
        exact ⟨rfl,rfl,HC.out.trans hcx⟩
     ·
      obtain rfl:=Sy.inv_ret hE6
      clear hE6
      refine wp_region_any (by kernel_rfl) ?_
      change wpAny _ _ _ _ _ _ _ (World.drew _)
      have hbx : Below w5.heap.size w5 w5.drew:=(Below.refl _ _).drew
      replace HN:=hid (HN.out.below hbx)
      replace HO:=hid (HO.out.below hbx)
      have hx:=gw3 HP.out HC.out HZ.out hbx
      clear HP HC HZ hz hgl hbx
      obtain ⟨HP,HC,HZ,hz,hgl⟩:=hx
      refine wpAny_take (i:=0) (v:=?_) rfl (by kernel_rfl) (by kernel_rfl) (by kernel_rfl) (fun _ _ _ h => h) (Or.inl ⟨by rfl,?_⟩) ?_
      rotate_left
      ·
       intro w;go_simp
       first | done | with_reducible rfl
      try simp only [Act.put,y1,y2,y3,y4,y5,y6]
      refine wpAny_take (i:=2) (v:=?_) rfl (by kernel_rfl) (by kernel_rfl) (by kernel_rfl) (fun _ _ _ h => h) (Or.inl ⟨by rfl,?_⟩) ?_
      rotate_left
      ·
       intro w;go_simp
       first | done | with_reducible rfl
      try simp only [Act.put,y1,y2,y3,y4,y5,y6]
      refine wpAny_ready (rs:=[1,3]) (by kernel_rfl) (by simp) ?_
      refine AllReady.cons rfl (fun K hK => ?_) ?_
      have k4:=HN.out.c4
      go_simp
      refine hK _ _ ?_
      clear hK K
      try simp only [Act.put,y1,y2,y3,y4,y5,y6]
      have mm1 : True:=trivial
      rotate_left
      refine AllReady.cons rfl (fun K hK => ?_) AllReady.nil
      go_simp
      have HLT:=hid HO.out.ob
      have hzp:=hz
      have hnp : w3.heap.size < w5.drew.heap.size:=HN.out.lt
      refine ok3 (S':=fun b => w5.drew.heap.size <= b) (C3.out _ HP.out) HC.out HZ.out hlt (fun b hb => hb) ?_
      clear HP HC HZ hz hgl
      intro Av cv w6 NAv HP HC HZ hz hgl hc
      replace HN:=hid (HN.out.ch hc (by omega))
      replace HO:=hid (HO.out.ch hc (by simp;omega))
      clear hc
      unfold ndV
      refine hK _ _ ?_
      clear hK K
      try simp only [Act.put,y1,y2,y3,y4,y5,y6]
      have mm2 : True:=trivial
      rotate_left
      all_goals first
       | fail_if_success clear mm1
       |
        clear mm1
        refine wpAny_ready (rs:=[3]) (by kernel_rfl) (by simp) ?_
        refine AllReady.cons rfl (fun K hK => ?_) AllReady.nil
        go_simp
        have HLT:=hid HO.out.ob
        have hzp:=hz
        have hnp : w3.heap.size < w5.drew.heap.size:=HN.out.lt
        refine ok3 (S':=fun b => w5.drew.heap.size <= b) (C3.out _ HP.out) HC.out HZ.out hlt (fun b hb => hb) ?_
        clear HP HC HZ hz hgl
        intro Av cv w6 NAv HP HC HZ hz hgl hc
        replace HN:=hid (HN.out.ch hc (by omega))
        replace HO:=hid (HO.out.ch hc (by simp;omega))
        clear hc
        unfold ndV
        refine hK _ _ ?_
        clear hK K
        try simp only [Act.put,y1,y2,y3,y4,y5,y6]
        have mm3 : True:=trivial
        rotate_left
      all_goals first
       | fail_if_success clear mm2
       |
        clear mm2
        refine wpAny_ready (rs:=[1,4]) (by kernel_rfl) (by simp) ?_
        refine AllReady.cons rfl (fun K hK => ?_) ?_
        have k4:=HN.out.c4
        go_simp
        refine hK _ _ ?_
        clear hK K
        try simp only [Act.put,y1,y2,y3,y4,y5,y6]
        have mm3 : True:=trivial
        rotate_left
        refine AllReady.cons rfl (fun K hK => ?_) AllReady.nil
        go_simp
        refine hK _ _ ?_
        clear hK K
        try simp only [Act.put,y1,y2,y3,y4,y5,y6]
        have HPr:=HP
        have HCr:=HC
        have HZr:=HZ
        have HNr:=HN
        have HOr:=HO
        have NAr:=NAv
        have hzr:=hz
        have hnr : w3.heap.size < w6.heap.size:=HN.out.lt
        have hbx : Below w6.heap.size w6 (w6.alloc (.cells #[.int .i64 d3.op,.string ⟨d3.nm.toArray⟩,.int .i64 d3.n,.string ⟨d3.t.toArray⟩,.slice Av d3.l.length cv] 25)):=bl _
        replace HN:=hid (HN.out.below hbx)
        replace NAv:=hid (NAv.out.below hbx)
        replace HO:=hid (HO.out.below hbx)
        have hx:=gw3 HP.out HC.out HZ.out hbx
        clear HP HC HZ hz hgl hbx
        obtain ⟨HP,HC,HZ,hz,hgl⟩:=hx
        have mm4 : True:=trivial
        rotate_left
      all_goals first
       | fail_if_success clear mm3
       |
        clear mm3
        refine wpAny_ready (rs:=[4]) (by kernel_rfl) (by simp) ?_
        refine AllReady.cons rfl (fun K hK => ?_) AllReady.nil
        go_simp
        refine hK _ _ ?_
        clear hK K
        try simp only [Act.put,y1,y2,y3,y4,y5,y6]
        have HPr:=HP
        have HCr:=HC
        have HZr:=HZ
        have HNr:=HN
        have HOr:=HO
        have NAr:=NAv
        have hzr:=hz
        have hnr : w3.heap.size < w6.heap.size:=HN.out.lt
        have hbx : Below w6.heap.size w6 (w6.alloc (.cells #[.int .i64 d3.op,.string ⟨d3.nm.toArray⟩,.int .i64 d3.n,.string ⟨d3.t.toArray⟩,.slice Av d3.l.length cv] 25)):=bl _
        replace HN:=hid (HN.out.below hbx)
        replace NAv:=hid (NAv.out.below hbx)
        replace HO:=hid (HO.out.below hbx)
        have hx:=gw3 HP.out HC.out HZ.out hbx
        clear HP HC HZ hz hgl hbx
        obtain ⟨HP,HC,HZ,hz,hgl⟩:=hx
        have mm5 : True:=trivial
        rotate_left
      all_goals first
       | fail_if_success clear mm4
       |
        clear mm4
        refine wpAny_ready (rs:=[1]) (by kernel_rfl) (by simp) ?_
        refine AllReady.cons rfl (fun K hK => ?_) AllReady.nil
        have k4:=HN.out.c4
        go_simp
        refine hK _ _ ?_
        clear hK K
        try simp only [Act.put,y1,y2,y3,y4,y5,y6]
        have mm5 : True:=trivial
        rotate_left
      all_goals first
       | fail_if_success clear mm5
       |
        clear mm5
        refine wpAny_ready (rs:=[5]) (by kernel_rfl) (by simp) ?_
        refine AllReady.cons rfl (fun K hK => ?_) AllReady.nil
        refine step_appS2 (3) (by rfl) _ _ (by rfl) (.slice (some ⟨w2.heap.size,0,none⟩) 2 2) [a,b] d3 #[.int .i64 d3.op,.string ⟨d3.nm.toArray⟩,.int .i64 d3.n,.string ⟨d3.t.toArray⟩,.slice Av d3.l.length cv] (by rfl) HOr.out NAr.out (fun b hb hlt => ⟨⟨by have hb : w5.drew.heap.size <= b:=hb;omega,by have hb : w5.drew.heap.size <= b:=hb;omega⟩,fun e => by have:=(HLT.out b e).2;have hb : w5.drew.heap.size <= b:=hb;omega⟩) ⟨by omega,by omega⟩ (by rfl) (by simp) (by rfl) ?_
        intro A6 c6 w6 ho6 hg6
        replace HP:=hid (HPr.out.gr hg6 (fun j hj => by have:=(HLT.out j hj).1.1;omega))
        replace HC:=hid (HCr.out.gr hg6 (fun j hj => by have:=(HLT.out j hj).1.1;omega))
        replace HZ:=hid (HZr.out.gr hg6 (fun e => by have:=(HLT.out _ e).1.1;omega))
        replace HN:=hid (HNr.out.gr hg6 (fun e => (HLT.out _ e).1.2 rfl))
        replace HO:=hid ho6
        clear ho6 hg6 HPr HCr HZr HNr HOr NAr NAv HLT
        replace hz:=HZ.out.lt
        replace hgl:=HP.out.lt
        refine hK _ _ ?_
        clear hK K
        try simp only [Act.put,y1,y2,y3,y4,y5,y6]
        refine wpAny_take (i:=6) (v:=?_) rfl (by kernel_rfl) (by kernel_rfl) (by kernel_rfl) (fun _ _ _ h => h) (Or.inl ⟨by rfl,?_⟩) ?_
        rotate_left
        ·
         intro w;go_simp
         first | done | with_reducible rfl
        try simp only [Act.put,y1,y2,y3,y4,y5,y6]
        have mm6 : True:=trivial
        rotate_left
      all_goals first
       | fail_if_success clear mm6
       |
        clear mm6
        refine wpAny_ready (rs:=[7]) (by kernel_rfl) (by simp) ?_
        refine AllReady.cons rfl (fun K hK => ?_) AllReady.nil
        have k4:=HN.out.c4
        have f4:=HN.out.free 4
        go_simp
        refine hK _ _ ?_
        clear hK K
        try simp only [Act.put,y1,y2,y3,y4,y5,y6]
        have GN:=hid (HN.out.st1 (A':=A6) (m':=3) (c':=c6))
        have GC:=hid (Ch.set w6 w3.heap.size 4 (.slice A6 (3) c6))
        replace HP:=hid (HP.out.chk GC.out (by omega))
        replace HZ:=hid (HZ.out.ch GC.out (by omega))
        replace HO:=hid (HO.out.ch GC.out (by simp))
        replace HC:=hid (HC.out.new GC.out (by omega))
        replace HN:=GN
        clear GC k4 f4
        generalize (w6.setCell ⟨w3.heap.size,4,none⟩ (.slice A6 (3) c6)) = w7 at *
        replace hz:=HZ.out.lt
        replace hgl:=HP.out.lt
        refine wpAny_done (by kernel_rfl) ?_ _
        rotate_left
      all_goals
       have k0:=HN.out.c0
       have k1:=HN.out.c1
       have k2:=HN.out.c2
       have k3:=HN.out.c3
       have k4:=HN.out.c4
       have z0:=HZ.out.c0
       have f0:=HZ.out.free 0
       have z1:=HZ.out.c1
       have f1:=HZ.out.free 1
       have z2:=HZ.out.c2
       have f2:=HZ.out.free 2
       have z3:=HZ.out.c3
       have f3:=HZ.out.free 3
       have z4:=HZ.out.c4
       have f4:=HZ.out.free 4
       have NA9:=hid (na_nd (op:=42) (s:=[]) (n:=0) (t:=[]) (l:=[a,b,d3]) (by omega) (by omega) (by simp) (by simp) (by simp) (HO.out.kr.more (S':=fun b => w.heap.size < b) (fun b hb _ => hb.1)))
       go_wp2_with fail
       exact bodyPost_ret (v:=ndV 42 [] 0 [] A6 3 c6) (by simp [results,Tryz.results196,go_sem,ndV,z0,z1,z2,z3,z4,f0,f1,f2,f3,f4]) rfl (fin_st HP.out HC.out hlt NA9.out)
    ·
     refine mv3 (skip_no g L u2 z2 ⟨#[105,102]⟩ _ HP.out h6) HC.out HZ.out hlt ?_
     clear HP HC HZ hz hgl
     intro w5 HP HC HZ hz hgl hc
     replace HN:=hid (HN.out.ch hc (by omega))
     replace HO:=hid (HO.out.ch hc (by simp;omega))
     clear hc
     go_wp2_with fail
     obtain ⟨m3,hm3,hF3⟩:=Sy.inv_cl hE5
     rcases hF3 with ⟨q3,hF3,rfl⟩ | ⟨d3,q3,hF3,hE6⟩
     all_goals have C3:=hid (fun W (hW : Pt W g L (u2 :: z2)) => HH.out.block_ m3 (by omega) _ _ hF3 g L W hW)
     all_goals clear hF3 hE3 hE4 hE5 hm3
     ·
      refine wp_region_any (by kernel_rfl) ?_
      change wpAny _ _ _ _ _ _ _ (World.drew _)
      have hbx : Below w5.heap.size w5 w5.drew:=(Below.refl _ _).drew
      replace HN:=hid (HN.out.below hbx)
      replace HO:=hid (HO.out.below hbx)
      have hx:=gw3 HP.out HC.out HZ.out hbx
      clear HP HC HZ hz hgl hbx
      obtain ⟨HP,HC,HZ,hz,hgl⟩:=hx
      refine wpAny_take (i:=0) (v:=?_) rfl (by kernel_rfl) (by kernel_rfl) (by kernel_rfl) (fun _ _ _ h => h) (Or.inl ⟨by rfl,?_⟩) ?_
      rotate_left
      ·
       intro w;go_simp
       first | done | with_reducible rfl
      try simp only [Act.put,y1,y2,y3,y4,y5,y6]
      refine wpAny_take (i:=2) (v:=?_) rfl (by kernel_rfl) (by kernel_rfl) (by kernel_rfl) (fun _ _ _ h => h) (Or.inl ⟨by rfl,?_⟩) ?_
      rotate_left
      ·
       intro w;go_simp
       first | done | with_reducible rfl
      try simp only [Act.put,y1,y2,y3,y4,y5,y6]
      refine wpAny_ready (rs:=[1,3]) (by kernel_rfl) (by simp) ?_
      refine AllReady.cons rfl (fun K hK => ?_) ?_
      have k4:=HN.out.c4
      go_simp
      refine hK _ _ ?_
      clear hK K
      try simp only [Act.put,y1,y2,y3,y4,y5,y6]
      have mm1 : True:=trivial
      rotate_left
      refine AllReady.cons rfl (fun K hK => ?_) AllReady.nil
      go_simp
      refine (C3.out _ HP.out).mono ?_
      intro e wx hp
      obtain ⟨rfl,hcx⟩:=hp
      exact ⟨rfl,rfl,HC.out.trans hcx⟩
      all_goals first
       | fail_if_success clear mm1
       |
        clear mm1
        refine wpAny_ready (rs:=[3]) (by kernel_rfl) (by simp) ?_
        refine AllReady.cons rfl (fun K hK => ?_) AllReady.nil
        go_simp
        refine (C3.out _ HP.out).mono ?_
        intro e wx hp
        obtain ⟨rfl,hcx⟩:=hp
        exact ⟨rfl,rfl,HC.out.trans hcx⟩
     ·
      obtain rfl:=Sy.inv_ret hE6
      clear hE6
      refine wp_region_any (by kernel_rfl) ?_
      change wpAny _ _ _ _ _ _ _ (World.drew _)
      have hbx : Below w5.heap.size w5 w5.drew:=(Below.refl _ _).drew
      replace HN:=hid (HN.out.below hbx)
      replace HO:=hid (HO.out.below hbx)
      have hx:=gw3 HP.out HC.out HZ.out hbx
      clear HP HC HZ hz hgl hbx
      obtain ⟨HP,HC,HZ,hz,hgl⟩:=hx
      refine wpAny_take (i:=0) (v:=?_) rfl (by kernel_rfl) (by kernel_rfl) (by kernel_rfl) (fun _ _ _ h => h) (Or.inl ⟨by rfl,?_⟩) ?_
      rotate_left
      ·
       intro w;go_simp
       first | done | with_reducible rfl
      try simp only [Act.put,y1,y2,y3,y4,y5,y6]
      refine wpAny_take (i:=2) (v:=?_) rfl (by kernel_rfl) (by kernel_rfl) (by kernel_rfl) (fun _ _ _ h => h) (Or.inl ⟨by rfl,?_⟩) ?_
      rotate_left
      ·
       intro w;go_simp
       first | done | with_reducible rfl
      try simp only [Act.put,y1,y2,y3,y4,y5,y6]
      refine wpAny_ready (rs:=[1,3]) (by kernel_rfl) (by simp) ?_
      refine AllReady.cons rfl (fun K hK => ?_) ?_
      have k4:=HN.out.c4
      go_simp
      refine hK _ _ ?_
      clear hK K
      try simp only [Act.put,y1,y2,y3,y4,y5,y6]
      have mm1 : True:=trivial
      rotate_left
      refine AllReady.cons rfl (fun K hK => ?_) AllReady.nil
      go_simp
      have HLT:=hid HO.out.ob
      have hzp:=hz
      have hnp : w3.heap.size < w5.drew.heap.size:=HN.out.lt
      refine ok3 (S':=fun b => w5.drew.heap.size <= b) (C3.out _ HP.out) HC.out HZ.out hlt (fun b hb => hb) ?_
      clear HP HC HZ hz hgl
      intro Av cv w6 NAv HP HC HZ hz hgl hc
      replace HN:=hid (HN.out.ch hc (by omega))
      replace HO:=hid (HO.out.ch hc (by simp;omega))
      clear hc
      unfold ndV
      refine hK _ _ ?_
      clear hK K
      try simp only [Act.put,y1,y2,y3,y4,y5,y6]
      have mm2 : True:=trivial
      rotate_left
      all_goals first
       | fail_if_success clear mm1
       |
        clear mm1
        refine wpAny_ready (rs:=[3]) (by kernel_rfl) (by simp) ?_
        refine AllReady.cons rfl (fun K hK => ?_) AllReady.nil
        go_simp
        have HLT:=hid HO.out.ob
        have hzp:=hz
        have hnp : w3.heap.size < w5.drew.heap.size:=HN.out.lt
        refine ok3 (S':=fun b => w5.drew.heap.size <= b) (C3.out _ HP.out) HC.out HZ.out hlt (fun b hb => hb) ?_
        clear HP HC HZ hz hgl
        intro Av cv w6 NAv HP HC HZ hz hgl hc
        replace HN:=hid (HN.out.ch hc (by omega))
        replace HO:=hid (HO.out.ch hc (by simp;omega))
        clear hc
        unfold ndV
        refine hK _ _ ?_
        clear hK K
        try simp only [Act.put,y1,y2,y3,y4,y5,y6]
        have mm3 : True:=trivial
        rotate_left
      all_goals first
       | fail_if_success clear mm2
       |
        clear mm2
        refine wpAny_ready (rs:=[1,4]) (by kernel_rfl) (by simp) ?_
        refine AllReady.cons rfl (fun K hK => ?_) ?_
        have k4:=HN.out.c4
        go_simp
        refine hK _ _ ?_
        clear hK K
        try simp only [Act.put,y1,y2,y3,y4,y5,y6]
        have mm3 : True:=trivial
        rotate_left
        refine AllReady.cons rfl (fun K hK => ?_) AllReady.nil
        go_simp
        refine hK _ _ ?_
        clear hK K
        try simp only [Act.put,y1,y2,y3,y4,y5,y6]
        have HPr:=HP
        have HCr:=HC
        have HZr:=HZ
        have HNr:=HN
        have HOr:=HO
        have NAr:=NAv
        have hzr:=hz
        have hnr : w3.heap.size < w6.heap.size:=HN.out.lt
        have hbx : Below w6.heap.size w6 (w6.alloc (.cells #[.int .i64 d3.op,.string ⟨d3.nm.toArray⟩,.int .i64 d3.n,.string ⟨d3.t.toArray⟩,.slice Av d3.l.length cv] 25)):=bl _
        replace HN:=hid (HN.out.below hbx)
        replace NAv:=hid (NAv.out.below hbx)
        replace HO:=hid (HO.out.below hbx)
        have hx:=gw3 HP.out HC.out HZ.out hbx
        clear HP HC HZ hz hgl hbx
        obtain ⟨HP,HC,HZ,hz,hgl⟩:=hx
        have mm4 : True:=trivial
        rotate_left
      all_goals first
       | fail_if_success clear mm3
       |
        clear mm3
        refine wpAny_ready (rs:=[4]) (by kernel_rfl) (by simp) ?_
        refine AllReady.cons rfl (fun K hK => ?_) AllReady.nil
        go_simp
        refine hK _ _ ?_
        clear hK K
        try simp only [Act.put,y1,y2,y3,y4,y5,y6]
        have HPr:=HP
        have HCr:=HC
        have HZr:=HZ
        have HNr:=HN
        have HOr:=HO
        have NAr:=NAv
        have hzr:=hz
        have hnr : w3.heap.size < w6.heap.size:=HN.out.lt
        have hbx : Below w6.heap.size w6 (w6.alloc (.cells #[.int .i64 d3.op,.string ⟨d3.nm.toArray⟩,.int .i64 d3.n,.string ⟨d3.t.toArray⟩,.slice Av d3.l.length cv] 25)):=bl _
        replace HN:=hid (HN.out.below hbx)
        replace NAv:=hid (NAv.out.below hbx)
        replace HO:=hid (HO.out.below hbx)
        have hx:=gw3 HP.out HC.out HZ.out hbx
        clear HP HC HZ hz hgl hbx
        obtain ⟨HP,HC,HZ,hz,hgl⟩:=hx
        have mm5 : True:=trivial
        rotate_left
      all_goals first
       | fail_if_success clear mm4
       |
        clear mm4
        refine wpAny_ready (rs:=[1]) (by kernel_rfl) (by simp) ?_
        refine AllReady.cons rfl (fun K hK => ?_) AllReady.nil
        have k4:=HN.out.c4
        go_simp
        refine hK _ _ ?_
        clear hK K
        try simp only [Act.put,y1,y2,y3,y4,y5,y6]
        have mm5 : True:=trivial
        rotate_left
      all_goals first
       | fail_if_success clear mm5
       |
        clear mm5
        refine wpAny_ready (rs:=[5]) (by kernel_rfl) (by simp) ?_
        refine AllReady.cons rfl (fun K hK => ?_) AllReady.nil
        refine step_appS2 (3) (by rfl) _ _ (by rfl) (.slice (some ⟨w2.heap.size,0,none⟩) 2 2) [a,b] d3 #[.int .i64 d3.op,.string ⟨d3.nm.toArray⟩,.int .i64 d3.n,.string ⟨d3.t.toArray⟩,.slice Av d3.l.length cv] (by rfl) HOr.out NAr.out (fun b hb hlt => ⟨⟨by have hb : w5.drew.heap.size <= b:=hb;omega,by have hb : w5.drew.heap.size <= b:=hb;omega⟩,fun e => by have:=(HLT.out b e).2;have hb : w5.drew.heap.size <= b:=hb;omega⟩) ⟨by omega,by omega⟩ (by rfl) (by simp) (by rfl) ?_
        intro A6 c6 w6 ho6 hg6
        replace HP:=hid (HPr.out.gr hg6 (fun j hj => by have:=(HLT.out j hj).1.1;omega))
        replace HC:=hid (HCr.out.gr hg6 (fun j hj => by have:=(HLT.out j hj).1.1;omega))
        replace HZ:=hid (HZr.out.gr hg6 (fun e => by have:=(HLT.out _ e).1.1;omega))
        replace HN:=hid (HNr.out.gr hg6 (fun e => (HLT.out _ e).1.2 rfl))
        replace HO:=hid ho6
        clear ho6 hg6 HPr HCr HZr HNr HOr NAr NAv HLT
        replace hz:=HZ.out.lt
        replace hgl:=HP.out.lt
        refine hK _ _ ?_
        clear hK K
        try simp only [Act.put,y1,y2,y3,y4,y5,y6]
        refine wpAny_take (i:=6) (v:=?_) rfl (by kernel_rfl) (by kernel_rfl) (by kernel_rfl) (fun _ _ _ h => h) (Or.inl ⟨by rfl,?_⟩) ?_
        rotate_left
        ·
         intro w;go_simp
         first | done | with_reducible rfl
        try simp only [Act.put,y1,y2,y3,y4,y5,y6]
        have mm6 : True:=trivial
        rotate_left
      all_goals first
       | fail_if_success clear mm6
       |
        clear mm6
        refine wpAny_ready (rs:=[7]) (by kernel_rfl) (by simp) ?_
        refine AllReady.cons rfl (fun K hK => ?_) AllReady.nil
        have k4:=HN.out.c4
        have f4:=HN.out.free 4
        go_simp
        refine hK _ _ ?_
        clear hK K
        try simp only [Act.put,y1,y2,y3,y4,y5,y6]
        have GN:=hid (HN.out.st1 (A':=A6) (m':=3) (c':=c6))
        have GC:=hid (Ch.set w6 w3.heap.size 4 (.slice A6 (3) c6))
        replace HP:=hid (HP.out.chk GC.out (by omega))
        replace HZ:=hid (HZ.out.ch GC.out (by omega))
        replace HO:=hid (HO.out.ch GC.out (by simp))
        replace HC:=hid (HC.out.new GC.out (by omega))
        replace HN:=GN
        clear GC k4 f4
        generalize (w6.setCell ⟨w3.heap.size,4,none⟩ (.slice A6 (3) c6)) = w7 at *
        replace hz:=HZ.out.lt
        replace hgl:=HP.out.lt
        refine wpAny_done (by kernel_rfl) ?_ _
        rotate_left
      all_goals
       have k0:=HN.out.c0
       have k1:=HN.out.c1
       have k2:=HN.out.c2
       have k3:=HN.out.c3
       have k4:=HN.out.c4
       have z0:=HZ.out.c0
       have f0:=HZ.out.free 0
       have z1:=HZ.out.c1
       have f1:=HZ.out.free 1
       have z2:=HZ.out.c2
       have f2:=HZ.out.free 2
       have z3:=HZ.out.c3
       have f3:=HZ.out.free 3
       have z4:=HZ.out.c4
       have f4:=HZ.out.free 4
       have NA9:=hid (na_nd (op:=42) (s:=[]) (n:=0) (t:=[]) (l:=[a,b,d3]) (by omega) (by omega) (by simp) (by simp) (by simp) (HO.out.kr.more (S':=fun b => w.heap.size < b) (fun b hb _ => hb.1)))
       go_wp2_with fail
       exact bodyPost_ret (v:=ndV 42 [] 0 [] A6 3 c6) (by simp [results,Tryz.results196,go_sem,ndV,z0,z1,z2,z3,z4,f0,f1,f2,f3,f4]) rfl (fin_st HP.out HC.out hlt NA9.out)
   ·
    obtain rfl:=Sy.inv_ret hE4
    clear hE3 hE4
    refine mv3 (skip_no g L u z ⟨#[101,108,115,101]⟩ _ HP.out h5) HC.out HZ.out hlt ?_
    clear HP HC HZ hz hgl
    intro w4 HP HC HZ hz hgl hc
    replace HN:=hid (HN.out.ch hc (by omega))
    replace HO:=hid (HO.out.ch hc (by simp;omega))
    clear hc
    have k0:=HN.out.c0
    have k1:=HN.out.c1
    have k2:=HN.out.c2
    have k3:=HN.out.c3
    have k4:=HN.out.c4
    have z0:=HZ.out.c0
    have f0:=HZ.out.free 0
    have z1:=HZ.out.c1
    have f1:=HZ.out.free 1
    have z2:=HZ.out.c2
    have f2:=HZ.out.free 2
    have z3:=HZ.out.c3
    have f3:=HZ.out.free 3
    have z4:=HZ.out.c4
    have f4:=HZ.out.free 4
    have NA9:=hid (na_nd (op:=42) (s:=[]) (n:=0) (t:=[]) (l:=[a,b]) (by omega) (by omega) (by simp) (by simp) (by simp) (HO.out.kr.more (S':=fun b => w.heap.size < b) (fun b hb _ => hb.1)))
    go_wp2_with fail
    exact bodyPost_ret (v:=ndV 42 [] 0 [] (some ⟨w2.heap.size,0,none⟩) 2 2) (by simp [results,Tryz.results196,go_sem,ndV,z0,z1,z2,z3,z4,f0,f1,f2,f3,f4]) rfl (fin_st HP.out HC.out hlt NA9.out)
end Go.Proofs.YtgeppafcemeidaaGreatDoor
namespace Go.Proofs.YtgeppafcemeidaaGreatDoor
open Go.RowKit
open Sy (N NT R Ev Run Pg fx hd body opnd inf RunN EvN nd nmd)
open Tk (T)
open Sy (Fin TB)
attribute [local go_sem ↓] Tryz.field0 Tryz.field1
theorem assign_c (n : Nat) (H : AllS n) (op : Int) (ho0 : 0 <= op) (ho1 : op <= 100) (l : List T) (r : R) (hE : EvN n (.assign op) l r) : CG 195 op l r:=by
 intro g L w h
 have hlt:=h.lt
 obtain ⟨t,s,rfl⟩:=h.fin.ex
 have htt:=h.fin.tb.2.2.1
 rcases Sy.inv_nm (show RunN n (Sy.nm (t :: s) fun s1 r => Sy.tk [61] r fun r => Sy.cl (.closed op) r fun a r => .ret (.ok (.mk a.op s1 a.n a.t a.l) r)) r from hE) with ⟨h1,hE1⟩ | ⟨h1,rfl⟩
 ·
  have hf2:=h.fin.tail (show t.k ≠ 0 by have : t.k = 1:=h1;omega)
  obtain ⟨u,z,rfl⟩:=hf2.ex
  clear hf2
  rcases Sy.inv_tk hE1 with ⟨h2,hE3⟩ | ⟨h2,rfl⟩
  ·
   obtain ⟨m,hm,hF⟩:=Sy.inv_cl hE3
   rcases hF with ⟨q,hF,rfl⟩ | ⟨a,q,hF,hE2⟩
   all_goals have C:=hid (fun W (hW : Pt W g L z) => H.closed_ op ho0 ho1 m (by omega) _ _ hF g L W hW)
   all_goals clear hE hE1 hE3 hF hm H
   ·
    have HP : Hid (Pt (w.alloc zNode) g L (t :: u :: z)):=h.below (bl _)
    have HC : Hid (Ch g w (w.alloc zNode)):=Ch.of_below (bl _)
    have HZ : Hid (Nb (w.alloc zNode) w.heap.size 0 [] 0 [] none 0 0):=Nb.zero
    have hz:=HZ.out.lt
    have hgl:=HP.out.lt
    clear h
    go_enter Tryz.func195,Tryz.ntmps195
    go_wp2_with fail
    refine mv3 (name_yes g L t (u :: z) _ HP.out h1) HC.out HZ.out hlt ?_
    clear HP HC HZ hz hgl
    intro w1 HP HC HZ hz hgl hc
    clear hc
    go_wp2_with fail
    refine mv3 (take_yes g L u z ⟨#[61]⟩ _ HP.out h2 (by decide)) HC.out HZ.out hlt ?_
    clear HP HC HZ hz hgl
    intro w2 HP HC HZ hz hgl hc
    clear hc
    go_wp2_with fail
    refine (C.out _ HP.out).mono ?_
    intro e wz hp
    obtain ⟨rfl,hc⟩:=hp
    go_wp2_with fail
    exact ⟨rfl,rfl,HC.out.trans hc⟩
   ·
    obtain rfl:=Sy.inv_ret hE2
    clear hE2
    have HP : Hid (Pt (w.alloc zNode) g L (t :: u :: z)):=h.below (bl _)
    have HC : Hid (Ch g w (w.alloc zNode)):=Ch.of_below (bl _)
    have HZ : Hid (Nb (w.alloc zNode) w.heap.size 0 [] 0 [] none 0 0):=Nb.zero
    have hz:=HZ.out.lt
    have hgl:=HP.out.lt
    clear h
    go_enter Tryz.func195,Tryz.ntmps195
    go_wp2_with fail
    refine mv3 (name_yes g L t (u :: z) _ HP.out h1) HC.out HZ.out hlt ?_
    clear HP HC HZ hz hgl
    intro w1 HP HC HZ hz hgl hc
    clear hc
    go_wp2_with fail
    refine mv3 (take_yes g L u z ⟨#[61]⟩ _ HP.out h2 (by decide)) HC.out HZ.out hlt ?_
    clear HP HC HZ hz hgl
    intro w2 HP HC HZ hz hgl hc
    clear hc
    go_wp2_with fail
    refine ok3 (S':=fun b => w.heap.size < b) (C.out _ HP.out) HC.out HZ.out hlt (fun b hb => Nat.lt_of_lt_of_le hz hb) ?_
    clear HP HC HZ hz hgl
    intro Ax cx w3 NAx HP HC HZ hz hgl hc
    clear hc
    unfold ndV
    have z0:=HZ.out.c0
    have f0:=HZ.out.free 0
    have z1:=HZ.out.c1
    have f1:=HZ.out.free 1
    have z2:=HZ.out.c2
    have f2:=HZ.out.free 2
    have z3:=HZ.out.c3
    have f3:=HZ.out.free 3
    have z4:=HZ.out.c4
    have f4:=HZ.out.free 4
    have NA9:=hid (na_ren (s':=t.t) NAx.out htt)
    go_upto_region 5 with (fail)
    clear NAx
    clear z0 f0
    clear z1 f1
    clear z2 f2
    clear z3 f3
    clear z4 f4
    have hbx : Below w3.heap.size w3 (w3.alloc (.cells #[.int .i64 a.op,.string ⟨t.t.toArray⟩,.int .i64 a.n,.string ⟨a.t.toArray⟩,.slice Ax a.l.length cx] 25)):=bl _
    replace NA9:=hid (NA9.out.below hbx)
    have hx:=gw3 HP.out HC.out HZ.out hbx
    clear HP HC HZ hz hgl hbx
    obtain ⟨HP,HC,HZ,hz,hgl⟩:=hx
    have HN : Hid (Nb (w3.alloc (.cells #[.int .i64 a.op,.string ⟨t.t.toArray⟩,.int .i64 a.n,.string ⟨a.t.toArray⟩,.slice Ax a.l.length cx] 25)) w3.heap.size a.op t.t a.n a.t Ax a.l.length cx):=Nb.new
    have k0:=HN.out.c0
    have k1:=HN.out.c1
    have k2:=HN.out.c2
    have k3:=HN.out.c3
    have k4:=HN.out.c4
    have z0:=HZ.out.c0
    have f0:=HZ.out.free 0
    have z1:=HZ.out.c1
    have f1:=HZ.out.free 1
    have z2:=HZ.out.c2
    have f2:=HZ.out.free 2
    have z3:=HZ.out.c3
    have f3:=HZ.out.free 3
    have z4:=HZ.out.c4
    have f4:=HZ.out.free 4
    go_wp2_with fail
    exact bodyPost_ret (v:=ndV a.op t.t a.n a.t Ax a.l.length cx) (by simp [results,Tryz.results195,go_sem,ndV,z0,z1,z2,z3,z4,f0,f1,f2,f3,f4]) rfl (fin_st HP.out HC.out hlt NA9.out)
  ·
   clear hE hE1 H
   have HP : Hid (Pt (w.alloc zNode) g L (t :: u :: z)):=h.below (bl _)
   have HC : Hid (Ch g w (w.alloc zNode)):=Ch.of_below (bl _)
   have HZ : Hid (Nb (w.alloc zNode) w.heap.size 0 [] 0 [] none 0 0):=Nb.zero
   have hz:=HZ.out.lt
   have hgl:=HP.out.lt
   clear h
   go_enter Tryz.func195,Tryz.ntmps195
   go_wp2_with fail
   refine mv3 (name_yes g L t (u :: z) _ HP.out h1) HC.out HZ.out hlt ?_
   clear HP HC HZ hz hgl
   intro w1 HP HC HZ hz hgl hc
   clear hc
   go_wp2_with fail
   refine (take_no g L u z ⟨#[61]⟩ _ HP.out h2).mono ?_
   intro e wz hp
   obtain ⟨rfl,hc⟩:=hp
   go_wp2_with fail
   exact ⟨rfl,rfl,HC.out.trans hc⟩
 ·
  clear hE H
  have HP : Hid (Pt (w.alloc zNode) g L (t :: s)):=h.below (bl _)
  have HC : Hid (Ch g w (w.alloc zNode)):=Ch.of_below (bl _)
  have HZ : Hid (Nb (w.alloc zNode) w.heap.size 0 [] 0 [] none 0 0):=Nb.zero
  have hz:=HZ.out.lt
  have hgl:=HP.out.lt
  clear h
  go_enter Tryz.func195,Tryz.ntmps195
  go_wp2_with fail
  refine (name_no g L t s _ HP.out h1).mono ?_
  intro e wz hp
  obtain ⟨rfl,hc⟩:=hp
  go_wp2_with fail
  exact ⟨rfl,rfl,HC.out.trans hc⟩
end Go.Proofs.YtgeppafcemeidaaGreatDoor
namespace Go.Proofs.YtgeppafcemeidaaGreatDoor
open Go.RowKit
open Sy (N NT R Ev Run Pg fx hd body opnd inf RunN EvN nd nmd)
open Tk (T)
open Sy (Fin TB)
attribute [local go_sem ↓] Tryz.field0 Tryz.field1
theorem branch_c (n : Nat) (H : AllS n) (l : List T) (r : R) (hE : EvN n .branch l r) : CF 223 l r:=by
 intro g L w h
 have hlt:=h.lt
 obtain ⟨t,s,rfl⟩:=h.fin.ex
 have htt:=h.fin.tb.2.2.1
 have HH:=hid H
 have CA:=hid (fun W (hW : Pt W g L (t :: s)) => assigns_any g L t s W hW)
 rcases Sy.inv_if (show RunN n (if Sy.assigns (t :: s) = true then Sy.cl (.chain 1) s.tail fun a r => Sy.cl .block r fun b r => .ret (.ok (nmd 50 t.t [a,b]) r)
  else Sy.cl (.chain 1) (t :: s) fun a r => Sy.cl .block r fun b r => .ret (.ok (nmd 50 [] [a,b]) r)) r from hE) with ⟨h1,hE1⟩ | ⟨h1,hE1⟩
 ·
  rw [h1] at CA
  have h1' : t.k = 1 /\ fx s = [61]:=by
   simp only [Sy.assigns,Sy.hd,List.headD_cons,List.tail_cons,Bool.and_eq_true,decide_eq_true_eq] at h1
   exact ⟨of_decide_eq_true h1.1,of_decide_eq_true h1.2⟩
  obtain ⟨h2,h3⟩:=h1'
  have hf2:=h.fin.tail (show t.k ≠ 0 by omega)
  obtain ⟨u,z,rfl⟩:=hf2.ex
  have hf3:=hf2.tail (Sy.fx_k h3 (by decide))
  obtain ⟨u2,z2,rfl⟩:=hf3.ex
  clear hf2 hf3 h1
  obtain ⟨m,hm,hF⟩:=Sy.inv_cl hE1
  rcases hF with ⟨q,hF,rfl⟩ | ⟨a,q,hF,hE2⟩
  all_goals have C:=hid (fun W (hW : Pt W g L (u2 :: z2)) => expr_e m _ _ hF g L W hW)
  all_goals clear hE hE1 hF H
  ·
   clear hm HH
   have HP : Hid (Pt (w.alloc zNode) g L (t :: u :: u2 :: z2)):=h.below (bl _)
   have HC : Hid (Ch g w (w.alloc zNode)):=Ch.of_below (bl _)
   have HZ : Hid (Nb (w.alloc zNode) w.heap.size 0 [] 0 [] none 0 0):=Nb.zero
   have hz:=HZ.out.lt
   have hgl:=HP.out.lt
   clear h
   go_enter Tryz.func223,Tryz.ntmps223
   go_wp2_with fail
   refine qt3 (CA.out _ HP.out) HP.out HC.out HZ.out ?_
   clear HP HC HZ hz hgl
   intro w1 HP HC HZ hz hgl hc
   clear hc
   go_wp2_with fail
   refine mv3 (name_yes g L t (u :: u2 :: z2) _ HP.out h2) HC.out HZ.out hlt ?_
   clear HP HC HZ hz hgl
   intro w2 HP HC HZ hz hgl hc
   clear hc
   go_wp2_with fail
   refine mv3 (take_yes g L u (u2 :: z2) ⟨#[61]⟩ _ HP.out h3 (by decide)) HC.out HZ.out hlt ?_
   clear HP HC HZ hz hgl
   intro w3 HP HC HZ hz hgl hc
   clear hc
   go_wp2_with fail
   refine (C.out _ HP.out).mono ?_
   intro e wz hp
   obtain ⟨rfl,hc⟩:=hp
   go_wp2_with fail
   exact ⟨rfl,rfl,HC.out.trans hc⟩
  ·
   obtain ⟨m2,hm2,hF2⟩:=Sy.inv_cl hE2
   rcases hF2 with ⟨q2,hF2,rfl⟩ | ⟨b,q2,hF2,hE3⟩
   all_goals have C2:=hid (fun W (hW : Pt W g L q) => HH.out.block_ m2 (by omega) _ _ hF2 g L W hW)
   all_goals clear hF2 hE2 hm hm2 HH
   ·
    have HP : Hid (Pt (w.alloc zNode) g L (t :: u :: u2 :: z2)):=h.below (bl _)
    have HC : Hid (Ch g w (w.alloc zNode)):=Ch.of_below (bl _)
    have HZ : Hid (Nb (w.alloc zNode) w.heap.size 0 [] 0 [] none 0 0):=Nb.zero
    have hz:=HZ.out.lt
    have hgl:=HP.out.lt
    clear h
    go_enter Tryz.func223,Tryz.ntmps223
    go_wp2_with fail
    refine qt3 (CA.out _ HP.out) HP.out HC.out HZ.out ?_
    clear HP HC HZ hz hgl
    intro w1 HP HC HZ hz hgl hc
    clear hc
    go_wp2_with fail
    refine mv3 (name_yes g L t (u :: u2 :: z2) _ HP.out h2) HC.out HZ.out hlt ?_
    clear HP HC HZ hz hgl
    intro w2 HP HC HZ hz hgl hc
    clear hc
    go_wp2_with fail
    refine mv3 (take_yes g L u (u2 :: z2) ⟨#[61]⟩ _ HP.out h3 (by decide)) HC.out HZ.out hlt ?_
    clear HP HC HZ hz hgl
    intro w3 HP HC HZ hz hgl hc
    clear hc
    go_wp2_with fail
    refine ok3 (S':=fun b => w.heap.size < b) (C.out _ HP.out) HC.out HZ.out hlt (fun b hb => Nat.lt_of_lt_of_le hz hb) ?_
    clear HP HC HZ hz hgl
    intro Ax cx w4 NAx HP HC HZ hz hgl hc
    clear hc
    unfold ndV
    go_wp2_with fail
    refine (C2.out _ HP.out).mono ?_
    intro e wz hp
    obtain ⟨rfl,hc⟩:=hp
    go_wp2_with fail
    exact ⟨rfl,rfl,HC.out.trans hc⟩
   ·
    obtain rfl:=Sy.inv_ret hE3
    clear hE3
    have HP : Hid (Pt (w.alloc zNode) g L (t :: u :: u2 :: z2)):=h.below (bl _)
    have HC : Hid (Ch g w (w.alloc zNode)):=Ch.of_below (bl _)
    have HZ : Hid (Nb (w.alloc zNode) w.heap.size 0 [] 0 [] none 0 0):=Nb.zero
    have hz:=HZ.out.lt
    have hgl:=HP.out.lt
    clear h
    go_enter Tryz.func223,Tryz.ntmps223
    go_wp2_with fail
    refine qt3 (CA.out _ HP.out) HP.out HC.out HZ.out ?_
    clear HP HC HZ hz hgl
    intro w1 HP HC HZ hz hgl hc
    clear hc
    go_wp2_with fail
    refine mv3 (name_yes g L t (u :: u2 :: z2) _ HP.out h2) HC.out HZ.out hlt ?_
    clear HP HC HZ hz hgl
    intro w2 HP HC HZ hz hgl hc
    clear hc
    go_wp2_with fail
    refine mv3 (take_yes g L u (u2 :: z2) ⟨#[61]⟩ _ HP.out h3 (by decide)) HC.out HZ.out hlt ?_
    clear HP HC HZ hz hgl
    intro w3 HP HC HZ hz hgl hc
    clear hc
    go_wp2_with fail
    refine ok3 (S':=fun b => w.heap.size < b) (C.out _ HP.out) HC.out HZ.out hlt (fun b hb => Nat.lt_of_lt_of_le hz hb) ?_
    clear HP HC HZ hz hgl
    intro Ax cx w4 NAx HP HC HZ hz hgl hc
    clear hc
    unfold ndV
    go_wp2_with fail
    refine ok3 (S':=fun b => w.heap.size < b) (C2.out _ HP.out) HC.out HZ.out hlt (fun b hb => Nat.lt_of_lt_of_le hz hb) ?_
    clear HP HC HZ hz hgl
    intro Ay cy w5 NAy HP HC HZ hz hgl hc
    replace NAx:=hid (NAx.out.ch hc (by simp;omega))
    clear hc
    unfold ndV
    go_wp2_with fail
    refine (named_any 50 t.t _ _ _ _).mono ?_
    rintro e w6 ⟨rfl,hb⟩
    have hk:=(KR.two_ NAx.out NAy.out (S':=fun b => w.heap.size < b) (fun _ h _ => h) (hz) 25 _ (by rfl)).below hb
    have hB : Below w5.heap.size w5 w6:=(bl _).trans (hb.mono (by simp))
    replace NAx:=hid (NAx.out.below hB)
    replace NAy:=hid (NAy.out.below hB)
    have hx:=gw3 HP.out HC.out HZ.out hB
    clear HP HC HZ hz hgl hB
    obtain ⟨HP,HC,HZ,hz,hgl⟩:=hx
    have NAY:=hid (na_nd (op:=50) (s:=t.t) (n:=0) (t:=[]) (l:=[a,b]) (by first | omega | (constructor <;> omega) | assumption) (by omega) (by first | assumption | simp | omega) (by first | assumption | simp | omega) (by simp) hk)
    clear hk hb
    unfold ndV
    have z0:=HZ.out.c0
    have f0:=HZ.out.free 0
    have z1:=HZ.out.c1
    have f1:=HZ.out.free 1
    have z2:=HZ.out.c2
    have f2:=HZ.out.free 2
    have z3:=HZ.out.c3
    have f3:=HZ.out.free 3
    have z4:=HZ.out.c4
    have f4:=HZ.out.free 4
    go_wp2_with fail
    exact bodyPost_ret (v:=ndV 50 t.t 0 [] (some ⟨w5.heap.size,0,none⟩) 2 2) (by simp [results,Tryz.results223,go_sem,ndV,z0,z1,z2,z3,z4,f0,f1,f2,f3,f4]) rfl (fin_st HP.out HC.out hlt NAY.out)
 ·
  rw [show Sy.assigns (t :: s) = false by simpa using h1] at CA
  clear h1
  obtain ⟨m,hm,hF⟩:=Sy.inv_cl hE1
  rcases hF with ⟨q,hF,rfl⟩ | ⟨a,q,hF,hE2⟩
  all_goals have C:=hid (fun W (hW : Pt W g L (t :: s)) => expr_e m _ _ hF g L W hW)
  all_goals clear hE hE1 hF H
  ·
   clear hm HH
   have HP : Hid (Pt (w.alloc zNode) g L (t :: s)):=h.below (bl _)
   have HC : Hid (Ch g w (w.alloc zNode)):=Ch.of_below (bl _)
   have HZ : Hid (Nb (w.alloc zNode) w.heap.size 0 [] 0 [] none 0 0):=Nb.zero
   have hz:=HZ.out.lt
   have hgl:=HP.out.lt
   clear h
   go_enter Tryz.func223,Tryz.ntmps223
   go_wp2_with fail
   refine qt3 (CA.out _ HP.out) HP.out HC.out HZ.out ?_
   clear HP HC HZ hz hgl
   intro w1 HP HC HZ hz hgl hc
   clear hc
   go_wp2_with fail
   refine (C.out _ HP.out).mono ?_
   intro e wz hp
   obtain ⟨rfl,hc⟩:=hp
   go_wp2_with fail
   exact ⟨rfl,rfl,HC.out.trans hc⟩
  ·
   obtain ⟨m2,hm2,hF2⟩:=Sy.inv_cl hE2
   rcases hF2 with ⟨q2,hF2,rfl⟩ | ⟨b,q2,hF2,hE3⟩
   all_goals have C2:=hid (fun W (hW : Pt W g L q) => HH.out.block_ m2 (by omega) _ _ hF2 g L W hW)
   all_goals clear hF2 hE2 hm hm2 HH
   ·
    have HP : Hid (Pt (w.alloc zNode) g L (t :: s)):=h.below (bl _)
    have HC : Hid (Ch g w (w.alloc zNode)):=Ch.of_below (bl _)
    have HZ : Hid (Nb (w.alloc zNode) w.heap.size 0 [] 0 [] none 0 0):=Nb.zero
    have hz:=HZ.out.lt
    have hgl:=HP.out.lt
    clear h
    go_enter Tryz.func223,Tryz.ntmps223
    go_wp2_with fail
    refine qt3 (CA.out _ HP.out) HP.out HC.out HZ.out ?_
    clear HP HC HZ hz hgl
    intro w1 HP HC HZ hz hgl hc
    clear hc
    go_wp2_with fail
    refine ok3 (S':=fun b => w.heap.size < b) (C.out _ HP.out) HC.out HZ.out hlt (fun b hb => Nat.lt_of_lt_of_le hz hb) ?_
    clear HP HC HZ hz hgl
    intro Ax cx w2 NAx HP HC HZ hz hgl hc
    clear hc
    unfold ndV
    go_wp2_with fail
    refine (C2.out _ HP.out).mono ?_
    intro e wz hp
    obtain ⟨rfl,hc⟩:=hp
    go_wp2_with fail
    exact ⟨rfl,rfl,HC.out.trans hc⟩
   ·
    obtain rfl:=Sy.inv_ret hE3
    clear hE3
    have HP : Hid (Pt (w.alloc zNode) g L (t :: s)):=h.below (bl _)
    have HC : Hid (Ch g w (w.alloc zNode)):=Ch.of_below (bl _)
    have HZ : Hid (Nb (w.alloc zNode) w.heap.size 0 [] 0 [] none 0 0):=Nb.zero
    have hz:=HZ.out.lt
    have hgl:=HP.out.lt
    clear h
    go_enter Tryz.func223,Tryz.ntmps223
    go_wp2_with fail
    refine qt3 (CA.out _ HP.out) HP.out HC.out HZ.out ?_
    clear HP HC HZ hz hgl
    intro w1 HP HC HZ hz hgl hc
    clear hc
    go_wp2_with fail
    refine ok3 (S':=fun b => w.heap.size < b) (C.out _ HP.out) HC.out HZ.out hlt (fun b hb => Nat.lt_of_lt_of_le hz hb) ?_
    clear HP HC HZ hz hgl
    intro Ax cx w2 NAx HP HC HZ hz hgl hc
    clear hc
    unfold ndV
    go_wp2_with fail
    refine ok3 (S':=fun b => w.heap.size < b) (C2.out _ HP.out) HC.out HZ.out hlt (fun b hb => Nat.lt_of_lt_of_le hz hb) ?_
    clear HP HC HZ hz hgl
    intro Ay cy w3 NAy HP HC HZ hz hgl hc
    replace NAx:=hid (NAx.out.ch hc (by simp;omega))
    clear hc
    unfold ndV
    go_wp2_with fail
    refine (named_any 50 [] _ _ _ _).mono ?_
    rintro e w4 ⟨rfl,hb⟩
    have hk:=(KR.two_ NAx.out NAy.out (S':=fun b => w.heap.size < b) (fun _ h _ => h) (hz) 25 _ (by rfl)).below hb
    have hB : Below w3.heap.size w3 w4:=(bl _).trans (hb.mono (by simp))
    replace NAx:=hid (NAx.out.below hB)
    replace NAy:=hid (NAy.out.below hB)
    have hx:=gw3 HP.out HC.out HZ.out hB
    clear HP HC HZ hz hgl hB
    obtain ⟨HP,HC,HZ,hz,hgl⟩:=hx
    have NAY:=hid (na_nd (op:=50) (s:=[]) (n:=0) (t:=[]) (l:=[a,b]) (by first | omega | (constructor <;> omega) | assumption) (by omega) (by first | assumption | simp | omega) (by first | assumption | simp | omega) (by simp) hk)
    clear hk hb
    unfold ndV
    have z0:=HZ.out.c0
    have f0:=HZ.out.free 0
    have z1:=HZ.out.c1
    have f1:=HZ.out.free 1
    have z2:=HZ.out.c2
    have f2:=HZ.out.free 2
    have z3:=HZ.out.c3
    have f3:=HZ.out.free 3
    have z4:=HZ.out.c4
    have f4:=HZ.out.free 4
    go_wp2_with fail
    exact bodyPost_ret (v:=ndV 50 [] 0 [] (some ⟨w3.heap.size,0,none⟩) 2 2) (by simp [results,Tryz.results223,go_sem,ndV,z0,z1,z2,z3,z4,f0,f1,f2,f3,f4]) rfl (fin_st HP.out HC.out hlt NAY.out)
end Go.Proofs.YtgeppafcemeidaaGreatDoor
namespace Go.Proofs.YtgeppafcemeidaaGreatDoor
open Go.RowKit
open Sy (N NT R Ev Run Pg fx hd body opnd inf RunN EvN nd nmd)
open Tk (T)
open Sy (Fin TB)
attribute [local go_sem ↓] Tryz.field0 Tryz.field1
theorem stmt_c (n : Nat) (H : AllS n) (l : List T) (r : R) (hE : EvN n .stmt l r) : CF 172 l r:=by
 intro g L w h
 have hlt:=h.lt
 obtain ⟨t,s,rfl⟩:=h.fin.ex
 have HH:=hid H
 have CA:=hid (fun W (hW : Pt W g L (t :: s)) => assigns_any g L t s W hW)
 have h1 : RunN n (body .stmt (t :: s)) r:=hE
 unfold body at h1
 simp only [List.tail_cons] at h1
 have H1:=hid h1
 clear hE H h1
 have HP : Hid (Pt (w.alloc zNode) g L (t :: s)):=h.below (bl _)
 have HC : Hid (Ch g w (w.alloc zNode)):=Ch.of_below (bl _)
 have HZ : Hid (Nb (w.alloc zNode) w.heap.size 0 [] 0 [] none 0 0):=Nb.zero
 have hz:=HZ.out.lt
 have hgl:=HP.out.lt
 clear h
 go_enter Tryz.func172,Tryz.ntmps172
 go_wp2_with fail
 rcases Sy.inv_if H1.out with ⟨k0,h1⟩ | ⟨k0,h1⟩
 all_goals clear H1
 ·
  obtain ⟨m,hm,hF⟩:=Sy.inv_tail h1
  have C:=hid (fun W (hW : Pt W g L s) => HH.out.assign_ 40 (by decide) (by decide) m (by omega) _ _ hF g L W hW)
  clear h1 hF hm HH CA
  refine mv3 (skip_yes g L t s ⟨#[108,101,116]⟩ _ HP.out k0 (by decide)) HC.out HZ.out hlt ?_
  clear HP HC HZ hz hgl
  intro w1 HP HC HZ hz hgl hc
  clear hc
  go_wp2_with fail
  cases r with
  | bad q =>
   refine (C.out _ HP.out).mono ?_
   intro e wz hp
   obtain ⟨rfl,hc⟩:=hp
   go_wp2_with fail
   exact ⟨rfl,rfl,HC.out.trans hc⟩
  | ok a q =>
   refine ok3 (S':=fun b => w.heap.size < b) (C.out _ HP.out) HC.out HZ.out hlt (fun b hb => Nat.lt_of_lt_of_le hz hb) ?_
   clear HP HC HZ hz hgl
   intro Ax cx w2 NAx HP HC HZ hz hgl hc
   clear hc
   unfold ndV
   have z0:=HZ.out.c0
   have f0:=HZ.out.free 0
   have z1:=HZ.out.c1
   have f1:=HZ.out.free 1
   have z2:=HZ.out.c2
   have f2:=HZ.out.free 2
   have z3:=HZ.out.c3
   have f3:=HZ.out.free 3
   have z4:=HZ.out.c4
   have f4:=HZ.out.free 4
   go_wp2_with fail
   exact bodyPost_ret (v:=ndV a.op a.nm a.n a.t Ax a.l.length cx) (by simp [results,Tryz.results172,go_sem,ndV,z0,z1,z2,z3,z4,f0,f1,f2,f3,f4]) rfl (fin_st HP.out HC.out hlt NAx.out)
 have H1:=hid h1
 clear h1
 refine mv3 (skip_no g L t s ⟨#[108,101,116]⟩ _ HP.out k0) HC.out HZ.out hlt ?_
 clear HP HC HZ hz hgl
 intro w1 HP HC HZ hz hgl hc
 clear hc
 go_wp2_with fail
 rcases Sy.inv_if H1.out with ⟨k1,h1⟩ | ⟨k1,h1⟩
 all_goals clear H1
 ·
  obtain ⟨m,hm,hF⟩:=Sy.inv_tail h1
  have C:=hid (fun W (hW : Pt W g L s) => HH.out.cond_ m (by omega) _ _ hF g L W hW)
  clear h1 hF hm HH CA
  refine mv3 (skip_yes g L t s ⟨#[105,102]⟩ _ HP.out k1 (by decide)) HC.out HZ.out hlt ?_
  clear HP HC HZ hz hgl
  intro w2 HP HC HZ hz hgl hc
  clear hc
  go_wp2_with fail
  cases r with
  | bad q =>
   refine (C.out _ HP.out).mono ?_
   intro e wz hp
   obtain ⟨rfl,hc⟩:=hp
   go_wp2_with fail
   exact ⟨rfl,rfl,HC.out.trans hc⟩
  | ok a q =>
   refine ok3 (S':=fun b => w.heap.size < b) (C.out _ HP.out) HC.out HZ.out hlt (fun b hb => Nat.lt_of_lt_of_le hz hb) ?_
   clear HP HC HZ hz hgl
   intro Ax cx w3 NAx HP HC HZ hz hgl hc
   clear hc
   unfold ndV
   have z0:=HZ.out.c0
   have f0:=HZ.out.free 0
   have z1:=HZ.out.c1
   have f1:=HZ.out.free 1
   have z2:=HZ.out.c2
   have f2:=HZ.out.free 2
   have z3:=HZ.out.c3
   have f3:=HZ.out.free 3
   have z4:=HZ.out.c4
   have f4:=HZ.out.free 4
   go_wp2_with fail
   exact bodyPost_ret (v:=ndV a.op a.nm a.n a.t Ax a.l.length cx) (by simp [results,Tryz.results172,go_sem,ndV,z0,z1,z2,z3,z4,f0,f1,f2,f3,f4]) rfl (fin_st HP.out HC.out hlt NAx.out)
 have H1:=hid h1
 clear h1
 refine mv3 (skip_no g L t s ⟨#[105,102]⟩ _ HP.out k1) HC.out HZ.out hlt ?_
 clear HP HC HZ hz hgl
 intro w2 HP HC HZ hz hgl hc
 clear hc
 go_wp2_with fail
 rcases Sy.inv_if H1.out with ⟨k2,h1⟩ | ⟨k2,h1⟩
 all_goals clear H1
 ·
  refine mv3 (skip_yes g L t s ⟨#[119,104,105,108,101]⟩ _ HP.out k2 (by decide)) HC.out HZ.out hlt ?_
  clear HP HC HZ hz hgl
  intro w3 HP HC HZ hz hgl hc
  clear hc
  go_wp2_with fail
  obtain ⟨m,hm,hF⟩:=Sy.inv_cl h1
  rcases hF with ⟨q,hF,rfl⟩ | ⟨a,q,hF,hE2⟩
  all_goals have C:=hid (fun W (hW : Pt W g L s) => expr_e m _ _ hF g L W hW)
  all_goals clear h1 hF CA
  ·
   clear hm HH
   refine (C.out _ HP.out).mono ?_
   intro e wz hp
   obtain ⟨rfl,hc⟩:=hp
   go_wp2_with fail
   exact ⟨rfl,rfl,HC.out.trans hc⟩
  ·
   refine ok3 (S':=fun b => w.heap.size < b) (C.out _ HP.out) HC.out HZ.out hlt (fun b hb => Nat.lt_of_lt_of_le hz hb) ?_
   clear HP HC HZ hz hgl
   intro Ax cx w4 NAx HP HC HZ hz hgl hc
   clear hc
   unfold ndV
   go_wp2_with fail
   obtain ⟨m2,hm2,hF2⟩:=Sy.inv_cl hE2
   rcases hF2 with ⟨q2,hF2,rfl⟩ | ⟨b,q2,hF2,hE3⟩
   all_goals have C2:=hid (fun W (hW : Pt W g L q) => HH.out.block_ m2 (by omega) _ _ hF2 g L W hW)
   all_goals clear hF2 hE2 hm hm2 HH
   ·
    refine (C2.out _ HP.out).mono ?_
    intro e wz hp
    obtain ⟨rfl,hc⟩:=hp
    go_wp2_with fail
    exact ⟨rfl,rfl,HC.out.trans hc⟩
   ·
    obtain rfl:=Sy.inv_ret hE3
    clear hE3
    refine ok3 (S':=fun b => w.heap.size < b) (C2.out _ HP.out) HC.out HZ.out hlt (fun b hb => Nat.lt_of_lt_of_le hz hb) ?_
    clear HP HC HZ hz hgl
    intro Ay cy w5 NAy HP HC HZ hz hgl hc
    replace NAx:=hid (NAx.out.ch hc (by simp;omega))
    clear hc
    unfold ndV
    go_wp2_with fail
    refine (node_any 43 _ _ _ _).mono ?_
    rintro e w6 ⟨rfl,hb⟩
    have hk:=(KR.two_ NAx.out NAy.out (S':=fun b => w.heap.size < b) (fun _ h _ => h) (hz) 25 _ (by rfl)).below hb
    have hB : Below w5.heap.size w5 w6:=(bl _).trans (hb.mono (by simp))
    replace NAx:=hid (NAx.out.below hB)
    replace NAy:=hid (NAy.out.below hB)
    have hx:=gw3 HP.out HC.out HZ.out hB
    clear HP HC HZ hz hgl hB
    obtain ⟨HP,HC,HZ,hz,hgl⟩:=hx
    have NAY:=hid (na_nd (op:=43) (s:=[]) (n:=0) (t:=[]) (l:=[a,b]) (by first | omega | (constructor <;> omega) | assumption) (by omega) (by first | assumption | simp | omega) (by first | assumption | simp | omega) (by simp) hk)
    clear hk hb
    unfold ndV
    have z0:=HZ.out.c0
    have f0:=HZ.out.free 0
    have z1:=HZ.out.c1
    have f1:=HZ.out.free 1
    have z2:=HZ.out.c2
    have f2:=HZ.out.free 2
    have z3:=HZ.out.c3
    have f3:=HZ.out.free 3
    have z4:=HZ.out.c4
    have f4:=HZ.out.free 4
    go_wp2_with fail
    exact bodyPost_ret (v:=ndV 43 [] 0 [] (some ⟨w5.heap.size,0,none⟩) 2 2) (by simp [results,Tryz.results172,go_sem,ndV,z0,z1,z2,z3,z4,f0,f1,f2,f3,f4]) rfl (fin_st HP.out HC.out hlt NAY.out)
 have H1:=hid h1
 clear h1
 refine mv3 (skip_no g L t s ⟨#[119,104,105,108,101]⟩ _ HP.out k2) HC.out HZ.out hlt ?_
 clear HP HC HZ hz hgl
 intro w3 HP HC HZ hz hgl hc
 clear hc
 go_wp2_with fail
 rcases Sy.inv_if H1.out with ⟨k3,h1⟩ | ⟨k3,h1⟩
 all_goals clear H1
 ·
  obtain ⟨m,hm,hF⟩:=Sy.inv_tail h1
  have C:=hid (fun W (hW : Pt W g L s) => HH.out.result_ m (by omega) _ _ hF g L W hW)
  clear h1 hF hm HH CA
  refine mv3 (skip_yes g L t s ⟨#[114,101,116,117,114,110]⟩ _ HP.out k3 (by decide)) HC.out HZ.out hlt ?_
  clear HP HC HZ hz hgl
  intro w4 HP HC HZ hz hgl hc
  clear hc
  go_wp2_with fail
  cases r with
  | bad q =>
   refine (C.out _ HP.out).mono ?_
   intro e wz hp
   obtain ⟨rfl,hc⟩:=hp
   go_wp2_with fail
   exact ⟨rfl,rfl,HC.out.trans hc⟩
  | ok a q =>
   refine ok3 (S':=fun b => w.heap.size < b) (C.out _ HP.out) HC.out HZ.out hlt (fun b hb => Nat.lt_of_lt_of_le hz hb) ?_
   clear HP HC HZ hz hgl
   intro Ax cx w5 NAx HP HC HZ hz hgl hc
   clear hc
   unfold ndV
   have z0:=HZ.out.c0
   have f0:=HZ.out.free 0
   have z1:=HZ.out.c1
   have f1:=HZ.out.free 1
   have z2:=HZ.out.c2
   have f2:=HZ.out.free 2
   have z3:=HZ.out.c3
   have f3:=HZ.out.free 3
   have z4:=HZ.out.c4
   have f4:=HZ.out.free 4
   go_wp2_with fail
   exact bodyPost_ret (v:=ndV a.op a.nm a.n a.t Ax a.l.length cx) (by simp [results,Tryz.results172,go_sem,ndV,z0,z1,z2,z3,z4,f0,f1,f2,f3,f4]) rfl (fin_st HP.out HC.out hlt NAx.out)
 have H1:=hid h1
 clear h1
 refine mv3 (skip_no g L t s ⟨#[114,101,116,117,114,110]⟩ _ HP.out k3) HC.out HZ.out hlt ?_
 clear HP HC HZ hz hgl
 intro w4 HP HC HZ hz hgl hc
 clear hc
 go_wp2_with fail
 rcases Sy.inv_if H1.out with ⟨k4,h1⟩ | ⟨k4,h1⟩
 all_goals clear H1
 ·
  obtain ⟨m,hm,hF⟩:=Sy.inv_tail h1
  have C:=hid (fun W (hW : Pt W g L s) => HH.out.closed_ 45 (by decide) (by decide) m (by omega) _ _ hF g L W hW)
  clear h1 hF hm HH CA
  refine mv3 (skip_yes g L t s ⟨#[116,104,114,111,119]⟩ _ HP.out k4 (by decide)) HC.out HZ.out hlt ?_
  clear HP HC HZ hz hgl
  intro w5 HP HC HZ hz hgl hc
  clear hc
  go_wp2_with fail
  cases r with
  | bad q =>
   refine (C.out _ HP.out).mono ?_
   intro e wz hp
   obtain ⟨rfl,hc⟩:=hp
   go_wp2_with fail
   exact ⟨rfl,rfl,HC.out.trans hc⟩
  | ok a q =>
   refine ok3 (S':=fun b => w.heap.size < b) (C.out _ HP.out) HC.out HZ.out hlt (fun b hb => Nat.lt_of_lt_of_le hz hb) ?_
   clear HP HC HZ hz hgl
   intro Ax cx w6 NAx HP HC HZ hz hgl hc
   clear hc
   unfold ndV
   have z0:=HZ.out.c0
   have f0:=HZ.out.free 0
   have z1:=HZ.out.c1
   have f1:=HZ.out.free 1
   have z2:=HZ.out.c2
   have f2:=HZ.out.free 2
   have z3:=HZ.out.c3
   have f3:=HZ.out.free 3
   have z4:=HZ.out.c4
   have f4:=HZ.out.free 4
   go_wp2_with fail
   exact bodyPost_ret (v:=ndV a.op a.nm a.n a.t Ax a.l.length cx) (by simp [results,Tryz.results172,go_sem,ndV,z0,z1,z2,z3,z4,f0,f1,f2,f3,f4]) rfl (fin_st HP.out HC.out hlt NAx.out)
 have H1:=hid h1
 clear h1
 refine mv3 (skip_no g L t s ⟨#[116,104,114,111,119]⟩ _ HP.out k4) HC.out HZ.out hlt ?_
 clear HP HC HZ hz hgl
 intro w5 HP HC HZ hz hgl hc
 clear hc
 go_wp2_with fail
 rcases Sy.inv_if H1.out with ⟨k5,h1⟩ | ⟨k5,h1⟩
 all_goals clear H1
 ·
  obtain ⟨m,hm,hF⟩:=Sy.inv_tail h1
  have C:=hid (fun W (hW : Pt W g L s) => HH.out.attempt_ m (by omega) _ _ hF g L W hW)
  clear h1 hF hm HH CA
  refine mv3 (skip_yes g L t s ⟨#[116,114,121]⟩ _ HP.out k5 (by decide)) HC.out HZ.out hlt ?_
  clear HP HC HZ hz hgl
  intro w6 HP HC HZ hz hgl hc
  clear hc
  go_wp2_with fail
  cases r with
  | bad q =>
   refine (C.out _ HP.out).mono ?_
   intro e wz hp
   obtain ⟨rfl,hc⟩:=hp
   go_wp2_with fail
   exact ⟨rfl,rfl,HC.out.trans hc⟩
  | ok a q =>
   refine ok3 (S':=fun b => w.heap.size < b) (C.out _ HP.out) HC.out HZ.out hlt (fun b hb => Nat.lt_of_lt_of_le hz hb) ?_
   clear HP HC HZ hz hgl
   intro Ax cx w7 NAx HP HC HZ hz hgl hc
   clear hc
   unfold ndV
   have z0:=HZ.out.c0
   have f0:=HZ.out.free 0
   have z1:=HZ.out.c1
   have f1:=HZ.out.free 1
   have z2:=HZ.out.c2
   have f2:=HZ.out.free 2
   have z3:=HZ.out.c3
   have f3:=HZ.out.free 3
   have z4:=HZ.out.c4
   have f4:=HZ.out.free 4
   go_wp2_with fail
   exact bodyPost_ret (v:=ndV a.op a.nm a.n a.t Ax a.l.length cx) (by simp [results,Tryz.results172,go_sem,ndV,z0,z1,z2,z3,z4,f0,f1,f2,f3,f4]) rfl (fin_st HP.out HC.out hlt NAx.out)
 have H1:=hid h1
 clear h1
 refine mv3 (skip_no g L t s ⟨#[116,114,121]⟩ _ HP.out k5) HC.out HZ.out hlt ?_
 clear HP HC HZ hz hgl
 intro w6 HP HC HZ hz hgl hc
 clear hc
 go_wp2_with fail
 rcases Sy.inv_if H1.out with ⟨k6,h1⟩ | ⟨k6,h1⟩
 all_goals clear H1
 ·
  obtain ⟨m,hm,hF⟩:=Sy.inv_cl h1
  rcases hF with ⟨q,hF,rfl⟩ | ⟨a,q,hF,hE2⟩
  all_goals have C:=hid (fun W (hW : Pt W g L s) => HH.out.block_ m (by omega) _ _ hF g L W hW)
  all_goals clear h1 hF hm HH CA
  ·
   refine mv3 (skip_yes g L t s ⟨#[115,97,103,97]⟩ _ HP.out k6 (by decide)) HC.out HZ.out hlt ?_
   clear HP HC HZ hz hgl
   intro w7 HP HC HZ hz hgl hc
   clear hc
   go_wp2_with fail
   refine (C.out _ HP.out).mono ?_
   intro e wz hp
   obtain ⟨rfl,hc⟩:=hp
   go_wp2_with fail
   exact ⟨rfl,rfl,HC.out.trans hc⟩
  ·
   obtain rfl:=Sy.inv_ret hE2
   clear hE2
   refine mv3 (skip_yes g L t s ⟨#[115,97,103,97]⟩ _ HP.out k6 (by decide)) HC.out HZ.out hlt ?_
   clear HP HC HZ hz hgl
   intro w7 HP HC HZ hz hgl hc
   clear hc
   go_wp2_with fail
   refine ok3 (S':=fun b => w.heap.size < b) (C.out _ HP.out) HC.out HZ.out hlt (fun b hb => Nat.lt_of_lt_of_le hz hb) ?_
   clear HP HC HZ hz hgl
   intro Ax cx w8 NAx HP HC HZ hz hgl hc
   clear hc
   unfold ndV
   go_wp2_with fail
   refine (node_any 47 _ _ _ _).mono ?_
   rintro e w9 ⟨rfl,hb⟩
   have hk:=(KR.one_ NAx.out (S':=fun b => w.heap.size < b) (fun _ h _ => h) (hz) 25).below hb
   have hB : Below w8.heap.size w8 w9:=(bl _).trans (hb.mono (by simp))
   replace NAx:=hid (NAx.out.below hB)
   have hx:=gw3 HP.out HC.out HZ.out hB
   clear HP HC HZ hz hgl hB
   obtain ⟨HP,HC,HZ,hz,hgl⟩:=hx
   have NAY:=hid (na_nd (op:=47) (s:=[]) (n:=0) (t:=[]) (l:=[a]) (by first | omega | (constructor <;> omega) | assumption) (by omega) (by first | assumption | simp | omega) (by first | assumption | simp | omega) (by simp) hk)
   clear hk hb
   unfold ndV
   have z0:=HZ.out.c0
   have f0:=HZ.out.free 0
   have z1:=HZ.out.c1
   have f1:=HZ.out.free 1
   have z2:=HZ.out.c2
   have f2:=HZ.out.free 2
   have z3:=HZ.out.c3
   have f3:=HZ.out.free 3
   have z4:=HZ.out.c4
   have f4:=HZ.out.free 4
   go_wp2_with fail
   exact bodyPost_ret (v:=ndV 47 [] 0 [] (some ⟨w8.heap.size,0,none⟩) 1 1) (by simp [results,Tryz.results172,go_sem,ndV,z0,z1,z2,z3,z4,f0,f1,f2,f3,f4]) rfl (fin_st HP.out HC.out hlt NAY.out)
 have H1:=hid h1
 clear h1
 refine mv3 (skip_no g L t s ⟨#[115,97,103,97]⟩ _ HP.out k6) HC.out HZ.out hlt ?_
 clear HP HC HZ hz hgl
 intro w7 HP HC HZ hz hgl hc
 clear hc
 go_wp2_with fail
 rcases Sy.inv_if H1.out with ⟨k7,h1⟩ | ⟨k7,h1⟩
 all_goals clear H1
 ·
  obtain ⟨m,hm,hF⟩:=Sy.inv_tail h1
  have C:=hid (fun W (hW : Pt W g L s) => HH.out.comp_ m (by omega) _ _ hF g L W hW)
  clear h1 hF hm HH CA
  refine mv3 (skip_yes g L t s ⟨#[117,110,100,111]⟩ _ HP.out k7 (by decide)) HC.out HZ.out hlt ?_
  clear HP HC HZ hz hgl
  intro w8 HP HC HZ hz hgl hc
  clear hc
  go_wp2_with fail
  cases r with
  | bad q =>
   refine (C.out _ HP.out).mono ?_
   intro e wz hp
   obtain ⟨rfl,hc⟩:=hp
   go_wp2_with fail
   exact ⟨rfl,rfl,HC.out.trans hc⟩
  | ok a q =>
   refine ok3 (S':=fun b => w.heap.size < b) (C.out _ HP.out) HC.out HZ.out hlt (fun b hb => Nat.lt_of_lt_of_le hz hb) ?_
   clear HP HC HZ hz hgl
   intro Ax cx w9 NAx HP HC HZ hz hgl hc
   clear hc
   unfold ndV
   have z0:=HZ.out.c0
   have f0:=HZ.out.free 0
   have z1:=HZ.out.c1
   have f1:=HZ.out.free 1
   have z2:=HZ.out.c2
   have f2:=HZ.out.free 2
   have z3:=HZ.out.c3
   have f3:=HZ.out.free 3
   have z4:=HZ.out.c4
   have f4:=HZ.out.free 4
   go_wp2_with fail
   exact bodyPost_ret (v:=ndV a.op a.nm a.n a.t Ax a.l.length cx) (by simp [results,Tryz.results172,go_sem,ndV,z0,z1,z2,z3,z4,f0,f1,f2,f3,f4]) rfl (fin_st HP.out HC.out hlt NAx.out)
 have H1:=hid h1
 clear h1
 refine mv3 (skip_no g L t s ⟨#[117,110,100,111]⟩ _ HP.out k7) HC.out HZ.out hlt ?_
 clear HP HC HZ hz hgl
 intro w8 HP HC HZ hz hgl hc
 clear hc
 go_wp2_with fail
 rcases Sy.inv_if H1.out with ⟨k8,h1⟩ | ⟨k8,h1⟩
 all_goals clear H1
 ·
  obtain ⟨m,hm,hF⟩:=Sy.inv_tail h1
  have C:=hid (fun W (hW : Pt W g L s) => HH.out.choice_ m (by omega) _ _ hF g L W hW)
  clear h1 hF hm HH CA
  refine mv3 (skip_yes g L t s ⟨#[115,101,108,101,99,116]⟩ _ HP.out k8 (by decide)) HC.out HZ.out hlt ?_
  clear HP HC HZ hz hgl
  intro w9 HP HC HZ hz hgl hc
  clear hc
  go_wp2_with fail
  cases r with
  | bad q =>
   refine (C.out _ HP.out).mono ?_
   intro e wz hp
   obtain ⟨rfl,hc⟩:=hp
   go_wp2_with fail
   exact ⟨rfl,rfl,HC.out.trans hc⟩
  | ok a q =>
   refine ok3 (S':=fun b => w.heap.size < b) (C.out _ HP.out) HC.out HZ.out hlt (fun b hb => Nat.lt_of_lt_of_le hz hb) ?_
   clear HP HC HZ hz hgl
   intro Ax cx w10 NAx HP HC HZ hz hgl hc
   clear hc
   unfold ndV
   have z0:=HZ.out.c0
   have f0:=HZ.out.free 0
   have z1:=HZ.out.c1
   have f1:=HZ.out.free 1
   have z2:=HZ.out.c2
   have f2:=HZ.out.free 2
   have z3:=HZ.out.c3
   have f3:=HZ.out.free 3
   have z4:=HZ.out.c4
   have f4:=HZ.out.free 4
   go_wp2_with fail
   exact bodyPost_ret (v:=ndV a.op a.nm a.n a.t Ax a.l.length cx) (by simp [results,Tryz.results172,go_sem,ndV,z0,z1,z2,z3,z4,f0,f1,f2,f3,f4]) rfl (fin_st HP.out HC.out hlt NAx.out)
 have H1:=hid h1
 clear h1
 refine mv3 (skip_no g L t s ⟨#[115,101,108,101,99,116]⟩ _ HP.out k8) HC.out HZ.out hlt ?_
 clear HP HC HZ hz hgl
 intro w9 HP HC HZ hz hgl hc
 clear hc
 go_wp2_with fail
 rcases Sy.inv_if H1.out with ⟨k9,h1⟩ | ⟨k9,h1⟩
 all_goals clear H1
 ·
  rw [k9] at CA
  obtain ⟨m,hm,hF⟩:=Sy.inv_tail h1
  have C:=hid (fun W (hW : Pt W g L (t :: s)) => HH.out.assign_ 41 (by decide) (by decide) m (by omega) _ _ hF g L W hW)
  clear h1 hF hm HH k9
  refine qt3 (CA.out _ HP.out) HP.out HC.out HZ.out ?_
  clear HP HC HZ hz hgl
  intro w10 HP HC HZ hz hgl hc
  clear hc
  go_wp2_with fail
  cases r with
  | bad q =>
   refine (C.out _ HP.out).mono ?_
   intro e wz hp
   obtain ⟨rfl,hc⟩:=hp
   go_wp2_with fail
   exact ⟨rfl,rfl,HC.out.trans hc⟩
  | ok a q =>
   refine ok3 (S':=fun b => w.heap.size < b) (C.out _ HP.out) HC.out HZ.out hlt (fun b hb => Nat.lt_of_lt_of_le hz hb) ?_
   clear HP HC HZ hz hgl
   intro Ax cx w11 NAx HP HC HZ hz hgl hc
   clear hc
   unfold ndV
   have z0:=HZ.out.c0
   have f0:=HZ.out.free 0
   have z1:=HZ.out.c1
   have f1:=HZ.out.free 1
   have z2:=HZ.out.c2
   have f2:=HZ.out.free 2
   have z3:=HZ.out.c3
   have f3:=HZ.out.free 3
   have z4:=HZ.out.c4
   have f4:=HZ.out.free 4
   go_wp2_with fail
   exact bodyPost_ret (v:=ndV a.op a.nm a.n a.t Ax a.l.length cx) (by simp [results,Tryz.results172,go_sem,ndV,z0,z1,z2,z3,z4,f0,f1,f2,f3,f4]) rfl (fin_st HP.out HC.out hlt NAx.out)
 ·
  rw [show Sy.assigns (t :: s) = false by simpa using k9] at CA
  obtain ⟨m,hm,hF⟩:=Sy.inv_tail h1
  have C:=hid (fun W (hW : Pt W g L (t :: s)) => HH.out.closed_ 52 (by decide) (by decide) m (by omega) _ _ hF g L W hW)
  clear h1 hF hm HH k9
  refine qt3 (CA.out _ HP.out) HP.out HC.out HZ.out ?_
  clear HP HC HZ hz hgl
  intro w10 HP HC HZ hz hgl hc
  clear hc
  go_wp2_with fail
  cases r with
  | bad q =>
   refine (C.out _ HP.out).mono ?_
   intro e wz hp
   obtain ⟨rfl,hc⟩:=hp
   go_wp2_with fail
   exact ⟨rfl,rfl,HC.out.trans hc⟩
  | ok a q =>
   refine ok3 (S':=fun b => w.heap.size < b) (C.out _ HP.out) HC.out HZ.out hlt (fun b hb => Nat.lt_of_lt_of_le hz hb) ?_
   clear HP HC HZ hz hgl
   intro Ax cx w11 NAx HP HC HZ hz hgl hc
   clear hc
   unfold ndV
   have z0:=HZ.out.c0
   have f0:=HZ.out.free 0
   have z1:=HZ.out.c1
   have f1:=HZ.out.free 1
   have z2:=HZ.out.c2
   have f2:=HZ.out.free 2
   have z3:=HZ.out.c3
   have f3:=HZ.out.free 3
   have z4:=HZ.out.c4
   have f4:=HZ.out.free 4
   go_wp2_with fail
   exact bodyPost_ret (v:=ndV a.op a.nm a.n a.t Ax a.l.length cx) (by simp [results,Tryz.results172,go_sem,ndV,z0,z1,z2,z3,z4,f0,f1,f2,f3,f4]) rfl (fin_st HP.out HC.out hlt NAx.out)
end Go.Proofs.YtgeppafcemeidaaGreatDoor
namespace Go.Proofs.YtgeppafcemeidaaGreatDoor
open Go.RowKit
open Sy (N NT R Ev Run Pg fx hd body opnd inf RunN EvN nd nmd)
open Tk (T)
open Sy (Fin TB)
attribute [local go_sem ↓] Tryz.field0 Tryz.field1
theorem decl_c (n : Nat) (H : AllS n) (l : List T) (r : R) (hE : EvN n .decl l r) : CF 49 l r:=by
 intro g L w h
 have hlt:=h.lt
 obtain ⟨t,s,rfl⟩:=h.fin.ex
 have HH:=hid H
 have h1 : RunN n (body .decl (t :: s)) r:=hE
 unfold body at h1
 simp only [List.tail_cons] at h1
 clear hE H
 rcases Sy.inv_if h1 with ⟨k0,h1⟩ | ⟨k0,h1⟩
 ·
  obtain ⟨m,hm,hF⟩:=Sy.inv_tail h1
  have C:=hid (fun W (hW : Pt W g L s) => HH.out.global_ m (by omega) _ _ hF g L W hW)
  clear h1 hF hm HH
  have HP : Hid (Pt (w.alloc zNode) g L (t :: s)):=h.below (bl _)
  have HC : Hid (Ch g w (w.alloc zNode)):=Ch.of_below (bl _)
  have HZ : Hid (Nb (w.alloc zNode) w.heap.size 0 [] 0 [] none 0 0):=Nb.zero
  have hz:=HZ.out.lt
  have hgl:=HP.out.lt
  clear h
  go_enter Tryz.func49,Tryz.ntmps49
  go_wp2_with fail
  refine mv3 (skip_yes g L t s ⟨#[118,97,114]⟩ _ HP.out k0 (by decide)) HC.out HZ.out hlt ?_
  clear HP HC HZ hz hgl
  intro w1 HP HC HZ hz hgl hc
  clear hc
  go_wp2_with fail
  cases r with
  | bad q =>
   refine (C.out _ HP.out).mono ?_
   intro e wz hp
   obtain ⟨rfl,hc⟩:=hp
   go_wp2_with fail
   exact ⟨rfl,rfl,HC.out.trans hc⟩
  | ok a q =>
   refine ok3 (S':=fun b => w.heap.size < b) (C.out _ HP.out) HC.out HZ.out hlt (fun b hb => Nat.lt_of_lt_of_le hz hb) ?_
   clear HP HC HZ hz hgl
   intro Ax cx w2 NAx HP HC HZ hz hgl hc
   clear hc
   unfold ndV
   have z0:=HZ.out.c0
   have f0:=HZ.out.free 0
   have z1:=HZ.out.c1
   have f1:=HZ.out.free 1
   have z2:=HZ.out.c2
   have f2:=HZ.out.free 2
   have z3:=HZ.out.c3
   have f3:=HZ.out.free 3
   have z4:=HZ.out.c4
   have f4:=HZ.out.free 4
   go_wp2_with fail
   exact bodyPost_ret (v:=ndV a.op a.nm a.n a.t Ax a.l.length cx) (by simp [results,Tryz.results49,go_sem,ndV,z0,z1,z2,z3,z4,f0,f1,f2,f3,f4]) rfl (fin_st HP.out HC.out hlt NAx.out)
 rcases Sy.inv_if h1 with ⟨k1,h1⟩ | ⟨k1,h1⟩
 ·
  obtain ⟨m,hm,hF⟩:=Sy.inv_tail h1
  have C:=hid (fun W (hW : Pt W g L s) => HH.out.func_ m (by omega) _ _ hF g L W hW)
  clear h1 hF hm HH
  have HP : Hid (Pt (w.alloc zNode) g L (t :: s)):=h.below (bl _)
  have HC : Hid (Ch g w (w.alloc zNode)):=Ch.of_below (bl _)
  have HZ : Hid (Nb (w.alloc zNode) w.heap.size 0 [] 0 [] none 0 0):=Nb.zero
  have hz:=HZ.out.lt
  have hgl:=HP.out.lt
  clear h
  go_enter Tryz.func49,Tryz.ntmps49
  go_wp2_with fail
  refine mv3 (skip_no g L t s ⟨#[118,97,114]⟩ _ HP.out k0) HC.out HZ.out hlt ?_
  clear HP HC HZ hz hgl
  intro w1 HP HC HZ hz hgl hc
  clear hc
  go_wp2_with fail
  refine mv3 (skip_yes g L t s ⟨#[102,117,110,99]⟩ _ HP.out k1 (by decide)) HC.out HZ.out hlt ?_
  clear HP HC HZ hz hgl
  intro w2 HP HC HZ hz hgl hc
  clear hc
  go_wp2_with fail
  cases r with
  | bad q =>
   refine (C.out _ HP.out).mono ?_
   intro e wz hp
   obtain ⟨rfl,hc⟩:=hp
   go_wp2_with fail
   exact ⟨rfl,rfl,HC.out.trans hc⟩
  | ok a q =>
   refine ok3 (S':=fun b => w.heap.size < b) (C.out _ HP.out) HC.out HZ.out hlt (fun b hb => Nat.lt_of_lt_of_le hz hb) ?_
   clear HP HC HZ hz hgl
   intro Ax cx w3 NAx HP HC HZ hz hgl hc
   clear hc
   unfold ndV
   have z0:=HZ.out.c0
   have f0:=HZ.out.free 0
   have z1:=HZ.out.c1
   have f1:=HZ.out.free 1
   have z2:=HZ.out.c2
   have f2:=HZ.out.free 2
   have z3:=HZ.out.c3
   have f3:=HZ.out.free 3
   have z4:=HZ.out.c4
   have f4:=HZ.out.free 4
   go_wp2_with fail
   exact bodyPost_ret (v:=ndV a.op a.nm a.n a.t Ax a.l.length cx) (by simp [results,Tryz.results49,go_sem,ndV,z0,z1,z2,z3,z4,f0,f1,f2,f3,f4]) rfl (fin_st HP.out HC.out hlt NAx.out)
 rcases Sy.inv_tk h1 with ⟨k2,h1⟩ | ⟨k2,rfl⟩
 ·
  have hf2:=h.fin.tail (Sy.fx_k k2 (by decide))
  obtain ⟨u,z,rfl⟩:=hf2.ex
  clear hf2
  simp only [List.tail_cons] at h1
  rcases Sy.inv_if h1 with ⟨k3,h1⟩ | ⟨k3,h1⟩
  ·
   obtain ⟨m,hm,hF⟩:=Sy.inv_tail h1
   have C:=hid (fun W (hW : Pt W g L z) => HH.out.handler_ 63 (by decide) (by decide) m (by omega) _ _ hF g L W hW)
   clear h1 hF hm HH
   have HP : Hid (Pt (w.alloc zNode) g L (t :: u :: z)):=h.below (bl _)
   have HC : Hid (Ch g w (w.alloc zNode)):=Ch.of_below (bl _)
   have HZ : Hid (Nb (w.alloc zNode) w.heap.size 0 [] 0 [] none 0 0):=Nb.zero
   have hz:=HZ.out.lt
   have hgl:=HP.out.lt
   clear h
   go_enter Tryz.func49,Tryz.ntmps49
   go_wp2_with fail
   refine mv3 (skip_no g L t (u :: z) ⟨#[118,97,114]⟩ _ HP.out k0) HC.out HZ.out hlt ?_
   clear HP HC HZ hz hgl
   intro w1 HP HC HZ hz hgl hc
   clear hc
   go_wp2_with fail
   refine mv3 (skip_no g L t (u :: z) ⟨#[102,117,110,99]⟩ _ HP.out k1) HC.out HZ.out hlt ?_
   clear HP HC HZ hz hgl
   intro w2 HP HC HZ hz hgl hc
   clear hc
   go_wp2_with fail
   refine mv3 (take_yes g L t (u :: z) ⟨#[111,110]⟩ _ HP.out k2 (by decide)) HC.out HZ.out hlt ?_
   clear HP HC HZ hz hgl
   intro w3 HP HC HZ hz hgl hc
   clear hc
   go_wp2_with fail
   refine mv3 (skip_yes g L u z ⟨#[115,105,103,110,97,108]⟩ _ HP.out k3 (by decide)) HC.out HZ.out hlt ?_
   clear HP HC HZ hz hgl
   intro w4 HP HC HZ hz hgl hc
   clear hc
   go_wp2_with fail
   cases r with
   | bad q =>
    refine (C.out _ HP.out).mono ?_
    intro e wz hp
    obtain ⟨rfl,hc⟩:=hp
    go_wp2_with fail
    exact ⟨rfl,rfl,HC.out.trans hc⟩
   | ok a q =>
    refine ok3 (S':=fun b => w.heap.size < b) (C.out _ HP.out) HC.out HZ.out hlt (fun b hb => Nat.lt_of_lt_of_le hz hb) ?_
    clear HP HC HZ hz hgl
    intro Ax cx w5 NAx HP HC HZ hz hgl hc
    clear hc
    unfold ndV
    have z0:=HZ.out.c0
    have f0:=HZ.out.free 0
    have z1:=HZ.out.c1
    have f1:=HZ.out.free 1
    have z2:=HZ.out.c2
    have f2:=HZ.out.free 2
    have z3:=HZ.out.c3
    have f3:=HZ.out.free 3
    have z4:=HZ.out.c4
    have f4:=HZ.out.free 4
    go_wp2_with fail
    exact bodyPost_ret (v:=ndV a.op a.nm a.n a.t Ax a.l.length cx) (by simp [results,Tryz.results49,go_sem,ndV,z0,z1,z2,z3,z4,f0,f1,f2,f3,f4]) rfl (fin_st HP.out HC.out hlt NAx.out)
  rcases Sy.inv_if h1 with ⟨k4,h1⟩ | ⟨k4,h1⟩
  ·
   obtain ⟨m,hm,hF⟩:=Sy.inv_tail h1
   have C:=hid (fun W (hW : Pt W g L z) => HH.out.handler_ 64 (by decide) (by decide) m (by omega) _ _ hF g L W hW)
   clear h1 hF hm HH
   have HP : Hid (Pt (w.alloc zNode) g L (t :: u :: z)):=h.below (bl _)
   have HC : Hid (Ch g w (w.alloc zNode)):=Ch.of_below (bl _)
   have HZ : Hid (Nb (w.alloc zNode) w.heap.size 0 [] 0 [] none 0 0):=Nb.zero
   have hz:=HZ.out.lt
   have hgl:=HP.out.lt
   clear h
   go_enter Tryz.func49,Tryz.ntmps49
   go_wp2_with fail
   refine mv3 (skip_no g L t (u :: z) ⟨#[118,97,114]⟩ _ HP.out k0) HC.out HZ.out hlt ?_
   clear HP HC HZ hz hgl
   intro w1 HP HC HZ hz hgl hc
   clear hc
   go_wp2_with fail
   refine mv3 (skip_no g L t (u :: z) ⟨#[102,117,110,99]⟩ _ HP.out k1) HC.out HZ.out hlt ?_
   clear HP HC HZ hz hgl
   intro w2 HP HC HZ hz hgl hc
   clear hc
   go_wp2_with fail
   refine mv3 (take_yes g L t (u :: z) ⟨#[111,110]⟩ _ HP.out k2 (by decide)) HC.out HZ.out hlt ?_
   clear HP HC HZ hz hgl
   intro w3 HP HC HZ hz hgl hc
   clear hc
   go_wp2_with fail
   refine mv3 (skip_no g L u z ⟨#[115,105,103,110,97,108]⟩ _ HP.out k3) HC.out HZ.out hlt ?_
   clear HP HC HZ hz hgl
   intro w4 HP HC HZ hz hgl hc
   clear hc
   go_wp2_with fail
   refine mv3 (skip_yes g L u z ⟨#[113,117,101,114,121]⟩ _ HP.out k4 (by decide)) HC.out HZ.out hlt ?_
   clear HP HC HZ hz hgl
   intro w5 HP HC HZ hz hgl hc
   clear hc
   go_wp2_with fail
   cases r with
   | bad q =>
    refine (C.out _ HP.out).mono ?_
    intro e wz hp
    obtain ⟨rfl,hc⟩:=hp
    go_wp2_with fail
    exact ⟨rfl,rfl,HC.out.trans hc⟩
   | ok a q =>
    refine ok3 (S':=fun b => w.heap.size < b) (C.out _ HP.out) HC.out HZ.out hlt (fun b hb => Nat.lt_of_lt_of_le hz hb) ?_
    clear HP HC HZ hz hgl
    intro Ax cx w6 NAx HP HC HZ hz hgl hc
    clear hc
    unfold ndV
    have z0:=HZ.out.c0
    have f0:=HZ.out.free 0
    have z1:=HZ.out.c1
    have f1:=HZ.out.free 1
    have z2:=HZ.out.c2
    have f2:=HZ.out.free 2
    have z3:=HZ.out.c3
    have f3:=HZ.out.free 3
    have z4:=HZ.out.c4
    have f4:=HZ.out.free 4
    go_wp2_with fail
    exact bodyPost_ret (v:=ndV a.op a.nm a.n a.t Ax a.l.length cx) (by simp [results,Tryz.results49,go_sem,ndV,z0,z1,z2,z3,z4,f0,f1,f2,f3,f4]) rfl (fin_st HP.out HC.out hlt NAx.out)
  rcases Sy.inv_tk h1 with ⟨k5,h1⟩ | ⟨k5,rfl⟩
  ·
   obtain ⟨m,hm,hF⟩:=Sy.inv_tail h1
   have C:=hid (fun W (hW : Pt W g L z) => HH.out.handler_ 65 (by decide) (by decide) m (by omega) _ _ hF g L W hW)
   clear h1 hF hm HH
   have HP : Hid (Pt (w.alloc zNode) g L (t :: u :: z)):=h.below (bl _)
   have HC : Hid (Ch g w (w.alloc zNode)):=Ch.of_below (bl _)
   have HZ : Hid (Nb (w.alloc zNode) w.heap.size 0 [] 0 [] none 0 0):=Nb.zero
   have hz:=HZ.out.lt
   have hgl:=HP.out.lt
   clear h
   go_enter Tryz.func49,Tryz.ntmps49
   go_wp2_with fail
   refine mv3 (skip_no g L t (u :: z) ⟨#[118,97,114]⟩ _ HP.out k0) HC.out HZ.out hlt ?_
   clear HP HC HZ hz hgl
   intro w1 HP HC HZ hz hgl hc
   clear hc
   go_wp2_with fail
   refine mv3 (skip_no g L t (u :: z) ⟨#[102,117,110,99]⟩ _ HP.out k1) HC.out HZ.out hlt ?_
   clear HP HC HZ hz hgl
   intro w2 HP HC HZ hz hgl hc
   clear hc
   go_wp2_with fail
   refine mv3 (take_yes g L t (u :: z) ⟨#[111,110]⟩ _ HP.out k2 (by decide)) HC.out HZ.out hlt ?_
   clear HP HC HZ hz hgl
   intro w3 HP HC HZ hz hgl hc
   clear hc
   go_wp2_with fail
   refine mv3 (skip_no g L u z ⟨#[115,105,103,110,97,108]⟩ _ HP.out k3) HC.out HZ.out hlt ?_
   clear HP HC HZ hz hgl
   intro w4 HP HC HZ hz hgl hc
   clear hc
   go_wp2_with fail
   refine mv3 (skip_no g L u z ⟨#[113,117,101,114,121]⟩ _ HP.out k4) HC.out HZ.out hlt ?_
   clear HP HC HZ hz hgl
   intro w5 HP HC HZ hz hgl hc
   clear hc
   go_wp2_with fail
   refine mv3 (take_yes g L u z ⟨#[117,112,100,97,116,101]⟩ _ HP.out k5 (by decide)) HC.out HZ.out hlt ?_
   clear HP HC HZ hz hgl
   intro w6 HP HC HZ hz hgl hc
   clear hc
   go_wp2_with fail
   cases r with
   | bad q =>
    refine (C.out _ HP.out).mono ?_
    intro e wz hp
    obtain ⟨rfl,hc⟩:=hp
    go_wp2_with fail
    exact ⟨rfl,rfl,HC.out.trans hc⟩
   | ok a q =>
    refine ok3 (S':=fun b => w.heap.size < b) (C.out _ HP.out) HC.out HZ.out hlt (fun b hb => Nat.lt_of_lt_of_le hz hb) ?_
    clear HP HC HZ hz hgl
    intro Ax cx w7 NAx HP HC HZ hz hgl hc
    clear hc
    unfold ndV
    have z0:=HZ.out.c0
    have f0:=HZ.out.free 0
    have z1:=HZ.out.c1
    have f1:=HZ.out.free 1
    have z2:=HZ.out.c2
    have f2:=HZ.out.free 2
    have z3:=HZ.out.c3
    have f3:=HZ.out.free 3
    have z4:=HZ.out.c4
    have f4:=HZ.out.free 4
    go_wp2_with fail
    exact bodyPost_ret (v:=ndV a.op a.nm a.n a.t Ax a.l.length cx) (by simp [results,Tryz.results49,go_sem,ndV,z0,z1,z2,z3,z4,f0,f1,f2,f3,f4]) rfl (fin_st HP.out HC.out hlt NAx.out)
  ·
   clear HH
   have HP : Hid (Pt (w.alloc zNode) g L (t :: u :: z)):=h.below (bl _)
   have HC : Hid (Ch g w (w.alloc zNode)):=Ch.of_below (bl _)
   have HZ : Hid (Nb (w.alloc zNode) w.heap.size 0 [] 0 [] none 0 0):=Nb.zero
   have hz:=HZ.out.lt
   have hgl:=HP.out.lt
   clear h
   go_enter Tryz.func49,Tryz.ntmps49
   go_wp2_with fail
   refine mv3 (skip_no g L t (u :: z) ⟨#[118,97,114]⟩ _ HP.out k0) HC.out HZ.out hlt ?_
   clear HP HC HZ hz hgl
   intro w1 HP HC HZ hz hgl hc
   clear hc
   go_wp2_with fail
   refine mv3 (skip_no g L t (u :: z) ⟨#[102,117,110,99]⟩ _ HP.out k1) HC.out HZ.out hlt ?_
   clear HP HC HZ hz hgl
   intro w2 HP HC HZ hz hgl hc
   clear hc
   go_wp2_with fail
   refine mv3 (take_yes g L t (u :: z) ⟨#[111,110]⟩ _ HP.out k2 (by decide)) HC.out HZ.out hlt ?_
   clear HP HC HZ hz hgl
   intro w3 HP HC HZ hz hgl hc
   clear hc
   go_wp2_with fail
   refine mv3 (skip_no g L u z ⟨#[115,105,103,110,97,108]⟩ _ HP.out k3) HC.out HZ.out hlt ?_
   clear HP HC HZ hz hgl
   intro w4 HP HC HZ hz hgl hc
   clear hc
   go_wp2_with fail
   refine mv3 (skip_no g L u z ⟨#[113,117,101,114,121]⟩ _ HP.out k4) HC.out HZ.out hlt ?_
   clear HP HC HZ hz hgl
   intro w5 HP HC HZ hz hgl hc
   clear hc
   go_wp2_with fail
   refine (take_no g L u z ⟨#[117,112,100,97,116,101]⟩ _ HP.out k5).mono ?_
   intro e wz hp
   obtain ⟨rfl,hc⟩:=hp
   go_wp2_with fail
   exact ⟨rfl,rfl,HC.out.trans hc⟩
 ·
  clear HH
  have HP : Hid (Pt (w.alloc zNode) g L (t :: s)):=h.below (bl _)
  have HC : Hid (Ch g w (w.alloc zNode)):=Ch.of_below (bl _)
  have HZ : Hid (Nb (w.alloc zNode) w.heap.size 0 [] 0 [] none 0 0):=Nb.zero
  have hz:=HZ.out.lt
  have hgl:=HP.out.lt
  clear h
  go_enter Tryz.func49,Tryz.ntmps49
  go_wp2_with fail
  refine mv3 (skip_no g L t s ⟨#[118,97,114]⟩ _ HP.out k0) HC.out HZ.out hlt ?_
  clear HP HC HZ hz hgl
  intro w1 HP HC HZ hz hgl hc
  clear hc
  go_wp2_with fail
  refine mv3 (skip_no g L t s ⟨#[102,117,110,99]⟩ _ HP.out k1) HC.out HZ.out hlt ?_
  clear HP HC HZ hz hgl
  intro w2 HP HC HZ hz hgl hc
  clear hc
  go_wp2_with fail
  refine (take_no g L t s ⟨#[111,110]⟩ _ HP.out k2).mono ?_
  intro e wz hp
  obtain ⟨rfl,hc⟩:=hp
  go_wp2_with fail
  exact ⟨rfl,rfl,HC.out.trans hc⟩
end Go.Proofs.YtgeppafcemeidaaGreatDoor
namespace Go.Proofs.YtgeppafcemeidaaGreatDoor
open Go.RowKit
open Sy (N NT R Ev Run Pg fx hd body opnd inf RunN EvN nd nmd)
open Tk (T)
open Sy (Fin TB)
attribute [local go_sem ↓] Tryz.field0 Tryz.field1
theorem param_c (n : Nat) (l : List T) (r : R) (hE : EvN n .param l r) (J g : Nat) (L : List T) (w : World) (h : Pt w g L l) (hJ : w.cell? ⟨J,0,none⟩ = some (.pointer (some ⟨g,0,none⟩))) (hJg : J ≠ g) : Calls Tryz.prog 138 #[.pointer (some ⟨J,0,none⟩)] w (Post g L w r):=by
 have hlt:=h.lt
 obtain ⟨t,s,rfl⟩:=h.fin.ex
 have htt:=h.fin.tb.2.2.1
 have hJl : J < w.heap.size:=World.block_lt_of_cell? w _ hJ
 rcases Sy.inv_nm (show RunN n (Sy.nm (t :: s) fun s r => .ret (.ok (nmd 6 s []) r)) r from hE) with ⟨h1,hE1⟩ | ⟨h1,rfl⟩
 ·
  obtain rfl:=Sy.inv_ret hE1
  clear hE hE1
  have HP : Hid (Pt (w.alloc zNode) g L (t :: s)):=h.below (bl _)
  have HC : Hid (Ch g w (w.alloc zNode)):=Ch.of_below (bl _)
  have HZ : Hid (Nb (w.alloc zNode) w.heap.size 0 [] 0 [] none 0 0):=Nb.zero
  have hz:=HZ.out.lt
  have hgl:=HP.out.lt
  clear h
  have hj2 : (w.alloc zNode).cell? ⟨J,0,none⟩ = some (.pointer (some ⟨g,0,none⟩)):=(Ch.of_below (bl _) : Ch g w _).cell hJ hJg
  unfold zNode at hj2
  go_enter Tryz.func138,Tryz.ntmps138
  go_wp2_with fail
  refine mv3 (name_yes g L t s _ HP.out h1) HC.out HZ.out hlt ?_
  clear HP HC HZ hz hgl
  intro w1 HP HC HZ hz hgl hc
  clear hc
  go_wp2_with fail
  refine (named_any 6 t.t none 0 0 _).mono ?_
  rintro e w2 ⟨rfl,hb⟩
  have hk:=(KR.nil_ (w:=w2) (S:=fun b => w.heap.size < b))
  have hB : Below w1.heap.size w1 w2:=hb
  have hx:=gw3 HP.out HC.out HZ.out hB
  clear HP HC HZ hz hgl hB
  obtain ⟨HP,HC,HZ,hz,hgl⟩:=hx
  have NAY:=hid (na_nd (op:=6) (s:=t.t) (n:=0) (t:=[]) (l:=[]) (by first | omega | (constructor <;> omega) | assumption) (by omega) (by first | assumption | simp | omega) (by first | assumption | simp | omega) (by simp) hk)
  clear hk hb
  unfold ndV
  have z0:=HZ.out.c0
  have f0:=HZ.out.free 0
  have z1:=HZ.out.c1
  have f1:=HZ.out.free 1
  have z2:=HZ.out.c2
  have f2:=HZ.out.free 2
  have z3:=HZ.out.c3
  have f3:=HZ.out.free 3
  have z4:=HZ.out.c4
  have f4:=HZ.out.free 4
  go_wp2_with fail
  exact bodyPost_ret (v:=ndV 6 t.t 0 [] none 0 0) (by simp [results,Tryz.results138,go_sem,ndV,z0,z1,z2,z3,z4,f0,f1,f2,f3,f4]) rfl (fin_st HP.out HC.out hlt NAY.out)
 ·
  clear hE
  have HP : Hid (Pt (w.alloc zNode) g L (t :: s)):=h.below (bl _)
  have HC : Hid (Ch g w (w.alloc zNode)):=Ch.of_below (bl _)
  have HZ : Hid (Nb (w.alloc zNode) w.heap.size 0 [] 0 [] none 0 0):=Nb.zero
  have hz:=HZ.out.lt
  have hgl:=HP.out.lt
  clear h
  have hj2 : (w.alloc zNode).cell? ⟨J,0,none⟩ = some (.pointer (some ⟨g,0,none⟩)):=(Ch.of_below (bl _) : Ch g w _).cell hJ hJg
  unfold zNode at hj2
  go_enter Tryz.func138,Tryz.ntmps138
  go_wp2_with fail
  refine (name_no g L t s _ HP.out h1).mono ?_
  intro e wz hp
  obtain ⟨rfl,hc⟩:=hp
  go_wp2_with fail
  exact ⟨rfl,rfl,HC.out.trans hc⟩
theorem post_up {g : Nat} {L : List T} {w w0 w' : World} {r : R} {e : Ending} (h : Post g L w r e w') (hc : Ch g w0 w) : Post g L w0 r e w':=by
 cases r with
 | ok a l =>
  obtain ⟨A,c,he,hn,hp,hc2⟩:=h
  exact ⟨A,c,he,hn.more (fun b hb _ => Nat.le_trans hc.size hb),hp,hc.trans hc2⟩
 | bad l => exact ⟨h.1,hc.trans h.2⟩
theorem func_c (n : Nat) (H : AllS n) (l : List T) (r : R) (hE : EvN n .func l r) : CF 86 l r:=by
 intro g L w0 h
 have hlt:=h.lt
 obtain ⟨t,s,rfl⟩:=h.fin.ex
 refine (show Calls Tryz.prog 86 #[.pointer (some ⟨g,0,none⟩)] w0 (Post g L (w0.alloc (.cells #[.pointer (some ⟨g,0,none⟩)] 45)) r) from ?_).mono (fun e w' hp => post_up hp (Ch.of_below (bl _)))
 have htt:=h.fin.tb.2.2.1
 have HH:=hid H
 have hmf : ∀ (fn : Fn) (first cap : Array Value) (w : World),(Instr.makeFunc fn first cap).run Tryz.prog w = .ok (.func fn first cap) w:=fun _ _ _ _ => rfl
 rcases Sy.inv_nm (show RunN n (Sy.nm (t :: s) fun s1 r => Sy.tk [40] r fun r => Sy.cl (.elems [41] 2) r fun k r => Sy.cl .block r fun b r => .ret (.ok (nmd 62 s1 (k.l ++ [b])) r)) r from hE) with ⟨h1,hE1⟩ | ⟨h1,hE1⟩
 all_goals clear hE H
 ·
  have hf2:=h.fin.tail (show t.k ≠ 0 by have : t.k = 1:=h1;omega)
  obtain ⟨u,z,rfl⟩:=hf2.ex
  clear hf2
  have hJ0 : (w0.alloc (.cells #[.pointer (some ⟨g,0,none⟩)] 45)).cell? ⟨w0.heap.size,0,none⟩ = some (.pointer (some ⟨g,0,none⟩)):=by rw [World.cell?_alloc_mark];rfl
  have hsz : (w0.alloc (.cells #[.pointer (some ⟨g,0,none⟩)] 45)).heap.size = w0.heap.size + 1:=by simp
  have hg0 : g < (w0.alloc (.cells #[.pointer (some ⟨g,0,none⟩)] 45)).heap.size:=by omega
  have hJg : w0.heap.size ≠ g:=by omega
  have hP0 : Pt (w0.alloc (.cells #[.pointer (some ⟨g,0,none⟩)] 45)) g L (t :: u :: z):=h.below (bl _)
  clear h hlt
  go_enter Tryz.func86,Tryz.ntmps86
  go_wp2_with fail
  rw [<- hsz]
  clear hsz
  generalize w0.alloc (.cells #[.pointer (some ⟨g,0,none⟩)] 45) = w at *
  generalize w0.heap.size = J at *
  have hlt:=hg0
  have HP : Hid (Pt (w.alloc zNode) g L (t :: u :: z)):=hP0.below (bl _)
  have HC : Hid (Ch g w (w.alloc zNode)):=Ch.of_below (bl _)
  have HZ : Hid (Nb (w.alloc zNode) w.heap.size 0 [] 0 [] none 0 0):=Nb.zero
  have HJ : Hid ((w.alloc zNode).cell? ⟨J,0,none⟩ = some (.pointer (some ⟨g,0,none⟩))):=(Ch.of_below (bl _) : Ch g w _).cell hJ0 hJg
  have hz:=HZ.out.lt
  have hgl:=HP.out.lt
  clear hP0
  refine mv3 (name_yes g L t (u :: z) _ HP.out h1) HC.out HZ.out hlt ?_
  clear HP HC HZ hz hgl
  intro w1 HP HC HZ hz hgl hc
  replace HJ:=hid (Ch.cell hc HJ.out hJg)
  have kj:=HJ.out
  clear hc
  go_wp2_with fail
  rcases Sy.inv_tk hE1 with ⟨h2,hE2⟩ | ⟨h2,hE2⟩
  ·
   refine mv3 (take_yes g L u z ⟨#[40]⟩ _ HP.out h2 (by decide)) HC.out HZ.out hlt ?_
   clear HP HC HZ hz hgl
   intro w2 HP HC HZ hz hgl hc
   replace HJ:=hid (Ch.cell hc HJ.out hJg)
   have kj:=HJ.out
   clear hc
   go_wp2_with fail
   obtain ⟨m,hm,hF⟩:=Sy.inv_cl hE2
   rcases hF with ⟨q,hF,rfl⟩ | ⟨k,q,hF,hE3⟩
   all_goals have C:=hid (fun W (hW : Pt W g L z) (hj : W.cell? ⟨J,0,none⟩ = some (.pointer (some ⟨g,0,none⟩))) => elemsP_any J m 2 g (fun m' hm' l r hE L W hW hj => param_c m' l r hE J g L W hW hj hJg) ⟨#[41]⟩ (by decide) (by decide) _ _ hF L W hW hj hJg)
   all_goals clear hF hE1 hE2
   ·
    refine (C.out _ HP.out HJ.out).mono ?_
    intro e wz hp
    obtain ⟨rfl,hc⟩:=hp
    go_wp2_with fail
    exact ⟨rfl,rfl,HC.out.trans hc⟩
   ·
    refine (C.out _ HP.out HJ.out).mono ?_
    intro e w3 hp
    obtain ⟨Ax,cx,rfl,hok,hp,hc,hll⟩:=hp
    have HO:=hid (hok.s (S:=fun b => w.heap.size < b) (fun b hb _ => Nat.lt_of_lt_of_le hz hb))
    replace HP:=hid hp
    replace HC:=hid (HC.out.trans hc)
    replace HJ:=hid (Ch.cell hc HJ.out hJg)
    replace HZ:=hid (HZ.out.ch hc (by omega))
    have kj:=HJ.out
    replace hz:=HZ.out.lt
    replace hgl:=HP.out.lt
    clear hc hp hok
    go_wp2_with fail
    obtain ⟨m2,hm2,hF2⟩:=Sy.inv_cl hE3
    rcases hF2 with ⟨q2,hF2,rfl⟩ | ⟨b4,q2,hF2,hE4⟩
    all_goals have C2:=hid (fun W (hW : Pt W g L q) => HH.out.block_ m2 (by omega) _ _ hF2 g L W hW)
    all_goals clear hF2 hE3
    ·
     refine (C2.out _ HP.out).mono ?_
     intro e wz hp
     obtain ⟨rfl,hc⟩:=hp
     go_wp2_with fail
     exact ⟨rfl,rfl,HC.out.trans hc⟩
    ·
     obtain rfl:=Sy.inv_ret hE4
     clear hE4 hm hm2
     have HLT:=hid HO.out.ob
     have hzp:=hz
     refine ok3 (S':=fun b => w3.heap.size <= b) (C2.out _ HP.out) HC.out HZ.out hlt (fun b hb => hb) ?_
     clear HP HC HZ hz hgl
     intro Ay cy w4 NAy HP HC HZ hz hgl hc
     replace HJ:=hid (Ch.cell hc HJ.out hJg)
     replace HO:=hid (HO.out.ch hc (by simp;omega))
     have kj:=HJ.out
     clear hc
     unfold ndV
     have hlk : k.l.length <= 1000000:=by omega
     go_wp2_with (at_builtin;refine wpList_appNS rfl (.tmp 13) (.tmp 16) rfl (.slice Ax k.l.length cx) k.l b4 #[.int .i64 b4.op,.string ⟨b4.nm.toArray⟩,.int .i64 b4.n,.string ⟨b4.t.toArray⟩,.slice Ay b4.l.length cy] rfl HO.out NAy.out (fun b hb hlt => ⟨Nat.lt_of_lt_of_le hzp hb,fun e => by have:=(HLT.out b e).2;have hb : w3.heap.size <= b:=hb;omega⟩) (show w.heap.size < w4.heap.size + 1 by omega) rfl hlk ?_;intro A6 c6 w6 ho6 hg6)
     replace HP:=hid (HP.out.gr hg6 (fun j hj => by have : w.heap.size < j:=(HLT.out j hj).1;omega))
     replace HC:=hid (HC.out.gr hg6 (fun j hj => by have : w.heap.size < j:=(HLT.out j hj).1;omega))
     replace HZ:=hid (HZ.out.gr hg6 (fun e => by have : w.heap.size < w.heap.size:=(HLT.out _ e).1;omega))
     replace HO:=hid ho6
     clear ho6 hg6 NAy HLT
     replace hz:=HZ.out.lt
     replace hgl:=HP.out.lt
     refine (named_any 62 t.t A6 (k.l.length + 1) c6 _).mono ?_
     rintro e w5 ⟨rfl,hb⟩
     replace HP:=hid (HP.out.below hb)
     replace HC:=hid (HC.out.trans (Ch.of_below hb))
     replace HZ:=hid (HZ.out.below hb)
     replace HO:=hid (HO.out.below hb)
     replace hz:=HZ.out.lt
     replace hgl:=HP.out.lt
     have NA9:=hid (na_nd (op:=62) (s:=t.t) (n:=0) (t:=[]) (l:=k.l ++ [b4]) (by omega) (by omega) htt (by simp) (by simp <;> omega) (show KR w5 (fun b => w.heap.size < b) (.slice A6 (k.l ++ [b4]).length c6) (k.l ++ [b4]) by simpa using HO.out.kr))
     simp only [List.length_append,List.length_cons,List.length_nil,Nat.zero_add] at NA9
     clear hb
     unfold ndV
     have z0:=HZ.out.c0
     have f0:=HZ.out.free 0
     have z1:=HZ.out.c1
     have f1:=HZ.out.free 1
     have z2:=HZ.out.c2
     have f2:=HZ.out.free 2
     have z3:=HZ.out.c3
     have f3:=HZ.out.free 3
     have z4:=HZ.out.c4
     have f4:=HZ.out.free 4
     go_wp2_with fail
     exact bodyPost_ret (v:=ndV 62 t.t 0 [] A6 (k.l.length + 1) c6) (by simp [results,Tryz.results86,go_sem,ndV,z0,z1,z2,z3,z4,f0,f1,f2,f3,f4]) rfl (fin_st HP.out HC.out hlt NA9.out)
  ·
   subst hE2
   refine (take_no g L u z ⟨#[40]⟩ _ HP.out h2).mono ?_
   intro e wz hp
   obtain ⟨rfl,hc⟩:=hp
   go_wp2_with fail
   exact ⟨rfl,rfl,HC.out.trans hc⟩
 ·
  subst hE1
  have hJ0 : (w0.alloc (.cells #[.pointer (some ⟨g,0,none⟩)] 45)).cell? ⟨w0.heap.size,0,none⟩ = some (.pointer (some ⟨g,0,none⟩)):=by rw [World.cell?_alloc_mark];rfl
  have hsz : (w0.alloc (.cells #[.pointer (some ⟨g,0,none⟩)] 45)).heap.size = w0.heap.size + 1:=by simp
  have hg0 : g < (w0.alloc (.cells #[.pointer (some ⟨g,0,none⟩)] 45)).heap.size:=by omega
  have hJg : w0.heap.size ≠ g:=by omega
  have hP0 : Pt (w0.alloc (.cells #[.pointer (some ⟨g,0,none⟩)] 45)) g L (t :: s):=h.below (bl _)
  clear h hlt
  go_enter Tryz.func86,Tryz.ntmps86
  go_wp2_with fail
  rw [<- hsz]
  clear hsz
  generalize w0.alloc (.cells #[.pointer (some ⟨g,0,none⟩)] 45) = w at *
  generalize w0.heap.size = J at *
  have hlt:=hg0
  have HP : Hid (Pt (w.alloc zNode) g L (t :: s)):=hP0.below (bl _)
  have HC : Hid (Ch g w (w.alloc zNode)):=Ch.of_below (bl _)
  have HZ : Hid (Nb (w.alloc zNode) w.heap.size 0 [] 0 [] none 0 0):=Nb.zero
  have HJ : Hid ((w.alloc zNode).cell? ⟨J,0,none⟩ = some (.pointer (some ⟨g,0,none⟩))):=(Ch.of_below (bl _) : Ch g w _).cell hJ0 hJg
  have hz:=HZ.out.lt
  have hgl:=HP.out.lt
  clear hP0
  refine (name_no g L t s _ HP.out h1).mono ?_
  intro e wz hp
  obtain ⟨rfl,hc⟩:=hp
  go_wp2_with fail
  exact ⟨rfl,rfl,HC.out.trans hc⟩
end Go.Proofs.YtgeppafcemeidaaGreatDoor
