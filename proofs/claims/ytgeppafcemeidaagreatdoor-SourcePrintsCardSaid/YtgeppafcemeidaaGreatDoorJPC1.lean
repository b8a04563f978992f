/-
  Texts of a proof, joined: functions of the program and of its reference by contract, and what holds of trees, tokens and bytes.
-/
import Derived.Test.YtgeppafcemeidaaGreatDoorJPA2
set_option linter.unusedVariables false
set_option linter.unusedSimpArgs false
set_option maxRecDepth 100000
set_option maxHeartbeats 8000000
namespace Go.Proofs.YtgeppafcemeidaaGreatDoor
open Go.RowKit
open Sy (N NT R Ev Run Pg fx hd body opnd inf RunN EvN nd nmd)
open Tk (T)
open Sy (Fin TB)
attribute [local go_sem ↓] Tryz.field0 Tryz.field1
def CsRel (n : Nat) (w : World) (g B0 B1 : Nat) (L : List T) (r : R) (wr : World) : Prop:=∃ m acc q A c,m < n /\ EvN m (.casesL acc) q r /\ Nb wr B1 49 [] 0 [] A acc.length c /\ OwnS wr (fun b => B0 < b /\ b ≠ B1) (.slice A acc.length c) acc /\ Pt wr g L q /\ Ch g w wr /\ Nb wr B0 0 [] 0 [] none 0 0 /\ acc.length <= 16
theorem choice_c (n : Nat) (H : AllS n) (l : List T) (r : R) (hE : EvN n .choice l r) : CF 201 l r:=by
 intro g L w h
 have hlt:=h.lt
 obtain ⟨t,s,rfl⟩:=h.fin.ex
 rcases Sy.inv_tk (show RunN n (Sy.tk [123] (t :: s) fun r => .call (.casesL []) r .ret) r from hE) with ⟨h1,hE1⟩ | ⟨h1,rfl⟩
 ·
  obtain ⟨m2,hm2,hE2⟩:=Sy.inv_tail hE1
  have HE2:=hid hE2
  have hmn : m2 < n:=by omega
  have HH:=hid H
  clear hE hE1 hE2 hm2 H
  have HP : Hid (Pt (w.alloc zNode) g L (t :: s)):=h.below (bl _)
  have HC : Hid (Ch g w (w.alloc zNode)):=Ch.of_below (bl _)
  have HZ : Hid (Nb (w.alloc zNode) w.heap.size 0 [] 0 [] none 0 0):=Nb.zero
  have hz:=HZ.out.lt
  have hgl:=HP.out.lt
  clear h
  go_enter Tryz.func201,Tryz.ntmps201
  go_wp2_with fail
  refine (node_any 49 none 0 0 _).mono ?_
  rintro e w1 ⟨rfl,hb⟩
  have hk:=(KR.nil_ (w:=w1) (S:=fun b => w.heap.size < b))
  have hB : Below (w.alloc zNode).heap.size (w.alloc zNode) w1:=hb
  have hx:=gw3 HP.out HC.out HZ.out hB
  clear HP HC HZ hz hgl hB
  obtain ⟨HP,HC,HZ,hz,hgl⟩:=hx
  have NAY:=hid (na_nd (op:=49) (s:=[]) (n:=0) (t:=[]) (l:=[]) (by first | omega | (constructor <;> omega) | assumption) (by omega) (by first | assumption | simp | omega) (by first | assumption | simp | omega) (by simp) hk)
  clear hk hb
  unfold ndV
  have hB01 : w.heap.size < w1.heap.size:=hz
  have hgB1 : g < w1.heap.size:=hgl
  have hgHN : g < w1.heap.size:=hgl
  have hzHN : w.heap.size < w1.heap.size:=hz
  have HN : Hid (Nb (w1.alloc (.cells #[.int .i64 49,.string ⟨([]).toArray⟩,.int .i64 0,.string ⟨([]).toArray⟩,.slice none 0 0] 25)) w1.heap.size 49 ([]) 0 ([]) none 0 0):=Nb.new
  have hbx : Below w1.heap.size w1 (w1.alloc (.cells #[.int .i64 49,.string ⟨([]).toArray⟩,.int .i64 0,.string ⟨([]).toArray⟩,.slice none 0 0] 25)):=bl _
  replace NAY:=hid (NAY.out.below hbx)
  have hx:=gw3 HP.out HC.out HZ.out hbx
  clear HP HC HZ hz hgl hbx
  obtain ⟨HP,HC,HZ,hz,hgl⟩:=hx
  have HO : Hid (OwnS (w1.alloc (.cells #[.int .i64 49,.string ⟨([]).toArray⟩,.int .i64 0,.string ⟨([]).toArray⟩,.slice none 0 0] 25)) (fun b => w.heap.size < b /\ b ≠ w1.heap.size) (.slice none 0 0) []):=OwnS.nil_
  go_wp2_with fail
  refine mv3 (take_yes g L t s ⟨#[123]⟩ _ HP.out h1 (by decide)) HC.out HZ.out hlt ?_
  clear HP HC HZ hz hgl
  intro w2 HP HC HZ hz hgl hc
  replace HN:=hid (HN.out.ch hc (by omega))
  replace HO:=hid (HO.out.ch hc (by simp;omega))
  clear hc
  go_wp2_with fail
  go_loopw [9] (fun _ wr => CsRel n w g w.heap.size w1.heap.size L r wr) (fun _ wr => L.length - posP wr g)
  case atStart =>
   exact ⟨m2,[],s,none,0,hmn,HE2.out,HN.out,HO.out,HP.out,HC.out,HZ.out,by simp⟩
  case round =>
   clear HP HC HZ HN HO HE2 hgl hz hmn hgHN hzHN
   obtain ⟨m3,acc,q3,A3,c3,hm3,hE3,hn3,ho3,hp3,hc3,hz3,hb3⟩:=hrel
   obtain ⟨t3,r3,rfl⟩:=hp3.fin.ex
   have hfin3:=hp3.fin
   have hle3:=hp3.len
   have HMR:=hid hp3.pos
   have HP:=hid hp3
   have HC:=hid hc3
   have HZ:=hid hz3
   have HN:=hid hn3
   have HO:=hid ho3
   have hgl:=hp3.lt
   have hz:=hz3.lt
   have hn1:=hn3.lt
   have k4:=hn3.c4
   clear hn3 ho3 hp3 hc3 hz3
   rcases Sy.inv_if (show RunN m3 (if acc.length < 16 /\ fx (t3 :: r3) = [99,97,115,101] then Sy.cl .branch r3 fun a r => .call (.casesL (acc ++ [a])) r .ret
    else if fx (t3 :: r3) = [101,108,115,101] then Sy.cl .block r3 fun b r => Sy.tk [125] r fun r => .ret (.ok (nd 49 (acc ++ [nd 51 [b]])) r)
    else if acc = [] then .ret (.bad (t3 :: r3)) else Sy.tk [125] (t3 :: r3) fun r => .ret (.ok (nd 49 acc) r)) r from hE3) with ⟨⟨h4,h5⟩,hE4⟩ | ⟨h4,hE4⟩
   ·
    have hlt16 : (acc.length : Int) < 16:=by omega
    have hlt16b : decide ((acc.length : Int) < 16) = true:=by simpa using hlt16
    obtain ⟨m4,hm4,hF4⟩:=Sy.inv_cl hE4
    rcases hF4 with ⟨q4,hF4,rfl⟩ | ⟨b4,q4,hF4,hE6⟩
    all_goals have C2:=hid (fun W (hW : Pt W g L r3) => HH.out.branch_ m4 (by omega) _ _ hF4 g L W hW)
    ·
     clear hE3 hE4 hF4 hm4 hm3 hfin3
     go_wp2_with fail
     refine mv3 (skip_yes g L t3 r3 ⟨#[99,97,115,101]⟩ _ HP.out h5 (by decide)) HC.out HZ.out hlt ?_
     clear HP HC HZ hz hgl
     intro w5 HP HC HZ hz hgl hc
     replace HN:=hid (HN.out.ch hc (by omega))
     replace HO:=hid (HO.out.ch hc (by simp;omega))
     replace hn1:=HN.out.lt
     clear hc
     go_wp2_with fail
     refine wp_region_any (by kernel_rfl) ?_
     change wpAny _ _ _ _ _ _ _ (World.drew _)
     have hbx : Below w5.heap.size w5 w5.drew:=(Below.refl _ _).drew
     replace HN:=hid (HN.out.below hbx)
     replace HO:=hid (HO.out.below hbx)
     have hx:=gw3 HP.out HC.out HZ.out hbx
     clear HP HC HZ hz hgl hbx
     obtain ⟨HP,HC,HZ,hz,hgl⟩:=hx
     replace hn1:=HN.out.lt
     refine wpAny_take (i:=0) (v:=?_) rfl (by kernel_rfl) (by kernel_rfl) (by kernel_rfl) (fun _ _ _ h => h) (Or.inl ⟨by rfl,?_⟩) ?_
     rotate_left
     ·
      intro w;go_simp
      first | done | with_reducible rfl
     try simp only [Act.put,y1,y2,y3,y4,y5,y6]
     refine wpAny_take (i:=2) (v:=?_) rfl (by kernel_rfl) (by kernel_rfl) (by kernel_rfl) (fun _ _ _ h => h) (Or.inl ⟨by rfl,?_⟩) ?_
     rotate_left
     ·
      intro w;go_simp
      first | done | with_reducible rfl
     try simp only [Act.put,y1,y2,y3,y4,y5,y6]
     refine wpAny_ready (rs:=[1,3]) (by kernel_rfl) (by simp) ?_
     refine AllReady.cons rfl (fun K hK => ?_) ?_
     have k4:=HN.out.c4
     go_simp
     refine hK _ _ ?_
     clear hK K
     try simp only [Act.put,y1,y2,y3,y4,y5,y6]
     have mm1 : True:=trivial
     rotate_left
     refine AllReady.cons rfl (fun K hK => ?_) AllReady.nil
     go_simp
     refine (C2.out _ HP.out).mono ?_
     intro e wx hp
     obtain ⟨rfl,hcx⟩:=hp
     exact ⟨rfl,rfl,HC.out.trans hcx⟩
     all_goals first
      | fail_if_success clear mm1
      |
       clear mm1
       refine wpAny_ready (rs:=[3]) (by kernel_rfl) (by simp) ?_
       refine AllReady.cons rfl (fun K hK => ?_) AllReady.nil
       go_simp
       refine (C2.out _ HP.out).mono ?_
       intro e wx hp
       obtain ⟨rfl,hcx⟩:=hp
       exact ⟨rfl,rfl,HC.out.trans hcx⟩
    ·
     have hq4 : q4.length <= r3.length:=Sy.ev_le hF4.ev
     obtain ⟨m5,hm5,hE5⟩:=Sy.inv_tail hE6
     have HE5:=hid hE5
     have hmn5 : m5 < n:=by omega
     have hlm : acc.length <= 1000000:=by omega
     clear hE3 hE4 hF4 hm4 hm3 hE5 hE6 hm5 hfin3
     go_wp2_with fail
     refine mv3 (skip_yes g L t3 r3 ⟨#[99,97,115,101]⟩ _ HP.out h5 (by decide)) HC.out HZ.out hlt ?_
     clear HP HC HZ hz hgl
     intro w5 HP HC HZ hz hgl hc
     replace HN:=hid (HN.out.ch hc (by omega))
     replace HO:=hid (HO.out.ch hc (by simp;omega))
     replace hn1:=HN.out.lt
     clear hc
     go_wp2_with fail
     clear hlt16 hlt16b
     refine wp_region_any (by kernel_rfl) ?_
     change wpAny _ _ _ _ _ _ _ (World.drew _)
     have hbx : Below w5.heap.size w5 w5.drew:=(Below.refl _ _).drew
     replace HN:=hid (HN.out.below hbx)
     replace HO:=hid (HO.out.below hbx)
     have hx:=gw3 HP.out HC.out HZ.out hbx
     clear HP HC HZ hz hgl hbx
     obtain ⟨HP,HC,HZ,hz,hgl⟩:=hx
     replace hn1:=HN.out.lt
     refine wpAny_take (i:=0) (v:=?_) rfl (by kernel_rfl) (by kernel_rfl) (by kernel_rfl) (fun _ _ _ h => h) (Or.inl ⟨by rfl,?_⟩) ?_
     rotate_left
     ·
      intro w;go_simp
      first | done | with_reducible rfl
     try simp only [Act.put,y1,y2,y3,y4,y5,y6]
     refine wpAny_take (i:=2) (v:=?_) rfl (by kernel_rfl) (by kernel_rfl) (by kernel_rfl) (fun _ _ _ h => h) (Or.inl ⟨by rfl,?_⟩) ?_
     rotate_left
     ·
      intro w;go_simp
      first | done | with_reducible rfl
     try simp only [Act.put,y1,y2,y3,y4,y5,y6]
     refine wpAny_ready (rs:=[1,3]) (by kernel_rfl) (by simp) ?_
     refine AllReady.cons rfl (fun K hK => ?_) ?_
     have k4:=HN.out.c4
     go_simp
     refine hK _ _ ?_
     clear hK K
     try simp only [Act.put,y1,y2,y3,y4,y5,y6]
     have mm1 : True:=trivial
     rotate_left
     refine AllReady.cons rfl (fun K hK => ?_) AllReady.nil
     go_simp
     have HLT:=hid HO.out.ob
     have hzp:=hz
     have hnp : w1.heap.size < w5.drew.heap.size:=HN.out.lt
     refine ok3 (S':=fun b => w5.drew.heap.size <= b) (C2.out _ HP.out) HC.out HZ.out hlt (fun b hb => hb) ?_
     clear HP HC HZ hz hgl
     intro Ay cy w6 NAy HP HC HZ hz hgl hc
     replace HN:=hid (HN.out.ch hc (by omega))
     replace HO:=hid (HO.out.ch hc (by simp;omega))
     replace hn1:=HN.out.lt
     clear hc
     unfold ndV
     refine hK _ _ ?_
     clear hK K
     try simp only [Act.put,y1,y2,y3,y4,y5,y6]
     have mm2 : True:=trivial
     rotate_left
     all_goals first
      | fail_if_success clear mm1
      |
       clear mm1
       refine wpAny_ready (rs:=[3]) (by kernel_rfl) (by simp) ?_
       refine AllReady.cons rfl (fun K hK => ?_) AllReady.nil
       go_simp
       have HLT:=hid HO.out.ob
       have hzp:=hz
       have hnp : w1.heap.size < w5.drew.heap.size:=HN.out.lt
       refine ok3 (S':=fun b => w5.drew.heap.size <= b) (C2.out _ HP.out) HC.out HZ.out hlt (fun b hb => hb) ?_
       clear HP HC HZ hz hgl
       intro Ay cy w6 NAy HP HC HZ hz hgl hc
       replace HN:=hid (HN.out.ch hc (by omega))
       replace HO:=hid (HO.out.ch hc (by simp;omega))
       replace hn1:=HN.out.lt
       clear hc
       unfold ndV
       refine hK _ _ ?_
       clear hK K
       try simp only [Act.put,y1,y2,y3,y4,y5,y6]
       have mm3 : True:=trivial
       rotate_left
     all_goals first
      | fail_if_success clear mm2
      |
       clear mm2
       refine wpAny_ready (rs:=[1,4]) (by kernel_rfl) (by simp) ?_
       refine AllReady.cons rfl (fun K hK => ?_) ?_
       have k4:=HN.out.c4
       go_simp
       refine hK _ _ ?_
       clear hK K
       try simp only [Act.put,y1,y2,y3,y4,y5,y6]
       have mm3 : True:=trivial
       rotate_left
       refine AllReady.cons rfl (fun K hK => ?_) AllReady.nil
       go_simp
       refine hK _ _ ?_
       clear hK K
       try simp only [Act.put,y1,y2,y3,y4,y5,y6]
       have HPr:=HP
       have HCr:=HC
       have HZr:=HZ
       have HNr:=HN
       have HOr:=HO
       have NAr:=NAy
       have hzr:=hz
       have hnr : w1.heap.size < w6.heap.size:=HN.out.lt
       have hbx : Below w6.heap.size w6 (w6.alloc (.cells #[.int .i64 b4.op,.string ⟨b4.nm.toArray⟩,.int .i64 b4.n,.string ⟨b4.t.toArray⟩,.slice Ay b4.l.length cy] 25)):=bl _
       replace HN:=hid (HN.out.below hbx)
       replace NAy:=hid (NAy.out.below hbx)
       replace HO:=hid (HO.out.below hbx)
       have hx:=gw3 HP.out HC.out HZ.out hbx
       clear HP HC HZ hz hgl hbx
       obtain ⟨HP,HC,HZ,hz,hgl⟩:=hx
       replace hn1:=HN.out.lt
       have mm4 : True:=trivial
       rotate_left
     all_goals first
      | fail_if_success clear mm3
      |
       clear mm3
       refine wpAny_ready (rs:=[4]) (by kernel_rfl) (by simp) ?_
       refine AllReady.cons rfl (fun K hK => ?_) AllReady.nil
       go_simp
       refine hK _ _ ?_
       clear hK K
       try simp only [Act.put,y1,y2,y3,y4,y5,y6]
       have HPr:=HP
       have HCr:=HC
       have HZr:=HZ
       have HNr:=HN
       have HOr:=HO
       have NAr:=NAy
       have hzr:=hz
       have hnr : w1.heap.size < w6.heap.size:=HN.out.lt
       have hbx : Below w6.heap.size w6 (w6.alloc (.cells #[.int .i64 b4.op,.string ⟨b4.nm.toArray⟩,.int .i64 b4.n,.string ⟨b4.t.toArray⟩,.slice Ay b4.l.length cy] 25)):=bl _
       replace HN:=hid (HN.out.below hbx)
       replace NAy:=hid (NAy.out.below hbx)
       replace HO:=hid (HO.out.below hbx)
       have hx:=gw3 HP.out HC.out HZ.out hbx
       clear HP HC HZ hz hgl hbx
       obtain ⟨HP,HC,HZ,hz,hgl⟩:=hx
       replace hn1:=HN.out.lt
       have mm5 : True:=trivial
       rotate_left
     all_goals first
      | fail_if_success clear mm4
      |
       clear mm4
       refine wpAny_ready (rs:=[1]) (by kernel_rfl) (by simp) ?_
       refine AllReady.cons rfl (fun K hK => ?_) AllReady.nil
       have k4:=HN.out.c4
       go_simp
       refine hK _ _ ?_
       clear hK K
       try simp only [Act.put,y1,y2,y3,y4,y5,y6]
       have mm5 : True:=trivial
       rotate_left
     all_goals first
      | fail_if_success clear mm5
      |
       clear mm5
       refine wpAny_ready (rs:=[5]) (by kernel_rfl) (by simp) ?_
       refine AllReady.cons rfl (fun K hK => ?_) AllReady.nil
       refine step_appS2 (acc.length + 1) (by rfl) _ _ (by rfl) (.slice A3 acc.length c3) acc b4 #[.int .i64 b4.op,.string ⟨b4.nm.toArray⟩,.int .i64 b4.n,.string ⟨b4.t.toArray⟩,.slice Ay b4.l.length cy] (by rfl) HOr.out NAr.out (fun b hb hlt => ⟨⟨by have hb : w5.drew.heap.size <= b:=hb;omega,by have hb : w5.drew.heap.size <= b:=hb;omega⟩,fun e => by have:=(HLT.out b e).2;have hb : w5.drew.heap.size <= b:=hb;omega⟩) ⟨by omega,by omega⟩ (by rfl) hlm (by rfl) ?_
       intro A6 c6 w6 ho6 hg6
       replace HP:=hid (HPr.out.gr hg6 (fun j hj => by have:=(HLT.out j hj).1.1;omega))
       replace HC:=hid (HCr.out.gr hg6 (fun j hj => by have:=(HLT.out j hj).1.1;omega))
       replace HZ:=hid (HZr.out.gr hg6 (fun e => by have:=(HLT.out _ e).1.1;omega))
       replace HN:=hid (HNr.out.gr hg6 (fun e => (HLT.out _ e).1.2 rfl))
       replace HO:=hid ho6
       clear ho6 hg6 HPr HCr HZr HNr HOr NAr NAy HLT
       replace hz:=HZ.out.lt
       replace hgl:=HP.out.lt
       replace hn1:=HN.out.lt
       refine hK _ _ ?_
       clear hK K
       try simp only [Act.put,y1,y2,y3,y4,y5,y6]
       refine wpAny_take (i:=6) (v:=?_) rfl (by kernel_rfl) (by kernel_rfl) (by kernel_rfl) (fun _ _ _ h => h) (Or.inl ⟨by rfl,?_⟩) ?_
       rotate_left
       ·
        intro w;go_simp
        first | done | with_reducible rfl
       try simp only [Act.put,y1,y2,y3,y4,y5,y6]
       have mm6 : True:=trivial
       rotate_left
     all_goals first
      | fail_if_success clear mm6
      |
       clear mm6
       refine wpAny_ready (rs:=[7]) (by kernel_rfl) (by simp) ?_
       refine AllReady.cons rfl (fun K hK => ?_) AllReady.nil
       have k4:=HN.out.c4
       have f4:=HN.out.free 4
       go_simp
       refine hK _ _ ?_
       clear hK K
       try simp only [Act.put,y1,y2,y3,y4,y5,y6]
       have GN:=hid (HN.out.st1 (A':=A6) (m':=acc.length + 1) (c':=c6))
       have GC:=hid (Ch.set w6 w1.heap.size 4 (.slice A6 (acc.length + 1) c6))
       replace HP:=hid (HP.out.chk GC.out (by omega))
       replace HZ:=hid (HZ.out.ch GC.out (by omega))
       replace HO:=hid (HO.out.ch GC.out (by simp))
       replace HC:=hid (HC.out.new GC.out (by omega))
       replace HN:=GN
       clear GC k4 f4
       generalize (w6.setCell ⟨w1.heap.size,4,none⟩ (.slice A6 (acc.length + 1) c6)) = w7 at *
       replace hz:=HZ.out.lt
       replace hgl:=HP.out.lt
       replace hn1:=HN.out.lt
       refine wpAny_done (by kernel_rfl) ?_ _
       rotate_left
     all_goals
      have hpos:=HP.out.pos
      go_wp2_with fail
      refine ⟨⟨m5,acc ++ [b4],q4,A6,c6,hmn5,HE5.out,by simpa using HN.out,by simpa using HO.out,HP.out,HC.out,HZ.out,by simp only [List.length_append,List.length_cons,List.length_nil] at *;omega⟩,?_⟩
      rw [hpos,HMR.out]
      simp only [List.length_cons] at *
      omega
   ·
    by_cases h4f : 16 <= acc.length
    ·
     have hlt16 : ¬ (acc.length : Int) < 16:=by omega
     have hlt16b : decide ((acc.length : Int) < 16) = false:=by simp;omega
     rcases Sy.inv_if hE4 with ⟨h6,hE5⟩ | ⟨h6,hE5⟩
     ·
      obtain ⟨m4,hm4,hF4⟩:=Sy.inv_cl hE5
      rcases hF4 with ⟨q4,hF4,rfl⟩ | ⟨b4,q4,hF4,hE6⟩
      all_goals have C2:=hid (fun W (hW : Pt W g L r3) => HH.out.block_ m4 (by omega) _ _ hF4 g L W hW)
      ·
       clear hE3 hE4 hE5 hF4 hm4 hm3 hfin3 h4
       go_wp2_with fail
       refine mv3 (skip_yes g L t3 r3 ⟨#[101,108,115,101]⟩ _ HP.out h6 (by decide)) HC.out HZ.out hlt ?_
       clear HP HC HZ hz hgl
       intro w5 HP HC HZ hz hgl hc
       replace HN:=hid (HN.out.ch hc (by omega))
       replace HO:=hid (HO.out.ch hc (by simp;omega))
       replace hn1:=HN.out.lt
       clear hc
       go_wp2_with fail
       refine wp_region_any (by kernel_rfl) ?_
       change wpAny _ _ _ _ _ _ _ (World.drew _)
       have hbx : Below w5.heap.size w5 w5.drew:=(Below.refl _ _).drew
       replace HN:=hid (HN.out.below hbx)
       replace HO:=hid (HO.out.below hbx)
       have hx:=gw3 HP.out HC.out HZ.out hbx
       clear HP HC HZ hz hgl hbx
       obtain ⟨HP,HC,HZ,hz,hgl⟩:=hx
       replace hn1:=HN.out.lt
       refine wpAny_take (i:=0) (v:=?_) rfl (by kernel_rfl) (by kernel_rfl) (by kernel_rfl) (fun _ _ _ h => h) (Or.inl ⟨by rfl,?_⟩) ?_
       rotate_left
       ·
        intro w;go_simp
        first | done | with_reducible rfl
       try simp only [Act.put,y1,y2,y3,y4,y5,y6]
       refine wpAny_take (i:=2) (v:=?_) rfl (by kernel_rfl) (by kernel_rfl) (by kernel_rfl) (fun _ _ _ h => h) (Or.inl ⟨by rfl,?_⟩) ?_
       rotate_left
       ·
        intro w;go_simp
        first | done | with_reducible rfl
       try simp only [Act.put,y1,y2,y3,y4,y5,y6]
       refine wpAny_ready (rs:=[1,3]) (by kernel_rfl) (by simp) ?_
       refine AllReady.cons rfl (fun K hK => ?_) ?_
       have k4:=HN.out.c4
       go_simp
       refine hK _ _ ?_
       clear hK K
       try simp only [Act.put,y1,y2,y3,y4,y5,y6]
       have mm1 : True:=trivial
       rotate_left
       refine AllReady.cons rfl (fun K hK => ?_) AllReady.nil
       go_simp
       refine (C2.out _ HP.out).mono ?_
       intro e wx hp
       obtain ⟨rfl,hcx⟩:=hp
       exact ⟨rfl,rfl,HC.out.trans hcx⟩
       all_goals first
        | fail_if_success clear mm1
        |
         clear mm1
         refine wpAny_ready (rs:=[3]) (by kernel_rfl) (by simp) ?_
         refine AllReady.cons rfl (fun K hK => ?_) AllReady.nil
         go_simp
         refine (C2.out _ HP.out).mono ?_
         intro e wx hp
         obtain ⟨rfl,hcx⟩:=hp
         exact ⟨rfl,rfl,HC.out.trans hcx⟩
      ·
       clear hE3 hE4 hE5 hF4 hm4 hm3 hfin3 h4
       go_wp2_with fail
       refine mv3 (skip_yes g L t3 r3 ⟨#[101,108,115,101]⟩ _ HP.out h6 (by decide)) HC.out HZ.out hlt ?_
       clear HP HC HZ hz hgl
       intro w5 HP HC HZ hz hgl hc
       replace HN:=hid (HN.out.ch hc (by omega))
       replace HO:=hid (HO.out.ch hc (by simp;omega))
       replace hn1:=HN.out.lt
       clear hc
       go_wp2_with fail
       refine wp_region_any (by kernel_rfl) ?_
       change wpAny _ _ _ _ _ _ _ (World.drew _)
       have hbx : Below w5.heap.size w5 w5.drew:=(Below.refl _ _).drew
       replace HN:=hid (HN.out.below hbx)
       replace HO:=hid (HO.out.below hbx)
       have hx:=gw3 HP.out HC.out HZ.out hbx
       clear HP HC HZ hz hgl hbx
       obtain ⟨HP,HC,HZ,hz,hgl⟩:=hx
       replace hn1:=HN.out.lt
       refine wpAny_take (i:=0) (v:=?_) rfl (by kernel_rfl) (by kernel_rfl) (by kernel_rfl) (fun _ _ _ h => h) (Or.inl ⟨by rfl,?_⟩) ?_
       rotate_left
       ·
        intro w;go_simp
        first | done | with_reducible rfl
       try simp only [Act.put,y1,y2,y3,y4,y5,y6]
       refine wpAny_take (i:=2) (v:=?_) rfl (by kernel_rfl) (by kernel_rfl) (by kernel_rfl) (fun _ _ _ h => h) (Or.inl ⟨by rfl,?_⟩) ?_
       rotate_left
       ·
        intro w;go_simp
        first | done | with_reducible rfl
       try simp only [Act.put,y1,y2,y3,y4,y5,y6]
       refine wpAny_ready (rs:=[1,3]) (by kernel_rfl) (by simp) ?_
       refine AllReady.cons rfl (fun K hK => ?_) ?_
       have k4:=HN.out.c4
       go_simp
       refine hK _ _ ?_
       clear hK K
       try simp only [Act.put,y1,y2,y3,y4,y5,y6]
       have mm1 : True:=trivial
       rotate_left
       refine AllReady.cons rfl (fun K hK => ?_) AllReady.nil
       go_simp
       have HLT:=hid HO.out.ob
       have hzp:=hz
       have hnp : w1.heap.size < w5.drew.heap.size:=HN.out.lt
       refine ok3 (S':=fun b => w5.drew.heap.size <= b) (C2.out _ HP.out) HC.out HZ.out hlt (fun b hb => hb) ?_
       clear HP HC HZ hz hgl
       intro Ay cy w6 NAy HP HC HZ hz hgl hc
       have HCS:=hid hc
       replace HN:=hid (HN.out.ch hc (by omega))
       replace HO:=hid (HO.out.ch hc (by simp;omega))
       replace hn1:=HN.out.lt
       clear hc
       unfold ndV
       have HCP:=hid (show w5.drew.heap.size <= w6.heap.size from HCS.out.size)
       refine hK _ _ ?_
       clear hK K
       try simp only [Act.put,y1,y2,y3,y4,y5,y6]
       have mm2 : True:=trivial
       rotate_left
       all_goals first
        | fail_if_success clear mm1
        |
         clear mm1
         refine wpAny_ready (rs:=[3]) (by kernel_rfl) (by simp) ?_
         refine AllReady.cons rfl (fun K hK => ?_) AllReady.nil
         go_simp
         have HLT:=hid HO.out.ob
         have hzp:=hz
         have hnp : w1.heap.size < w5.drew.heap.size:=HN.out.lt
         refine ok3 (S':=fun b => w5.drew.heap.size <= b) (C2.out _ HP.out) HC.out HZ.out hlt (fun b hb => hb) ?_
         clear HP HC HZ hz hgl
         intro Ay cy w6 NAy HP HC HZ hz hgl hc
         have HCS:=hid hc
         replace HN:=hid (HN.out.ch hc (by omega))
         replace HO:=hid (HO.out.ch hc (by simp;omega))
         replace hn1:=HN.out.lt
         clear hc
         unfold ndV
         have HCP:=hid (show w5.drew.heap.size <= w6.heap.size from HCS.out.size)
         refine hK _ _ ?_
         clear hK K
         try simp only [Act.put,y1,y2,y3,y4,y5,y6]
         have mm3 : True:=trivial
         rotate_left
       all_goals first
        | fail_if_success clear mm2
        |
         clear mm2
         refine wpAny_ready (rs:=[1,4]) (by kernel_rfl) (by simp) ?_
         refine AllReady.cons rfl (fun K hK => ?_) ?_
         have k4:=HN.out.c4
         go_simp
         refine hK _ _ ?_
         clear hK K
         try simp only [Act.put,y1,y2,y3,y4,y5,y6]
         have mm3 : True:=trivial
         rotate_left
         refine AllReady.cons rfl (fun K hK => ?_) AllReady.nil
         have HPSZ : w5.drew.heap.size <= w6.heap.size:=HCP.out
         go_simp
         refine hK _ _ ?_
         clear hK K
         try simp only [Act.put,y1,y2,y3,y4,y5,y6]
         have HK1:=hid (KR.one_ NAy.out (S':=fun b => w5.drew.heap.size <= b) (fun _ h _ => h) (HPSZ) 25)
         have hbx : Below w6.heap.size w6 (w6.alloc (.cells #[.int .i64 b4.op,.string ⟨b4.nm.toArray⟩,.int .i64 b4.n,.string ⟨b4.t.toArray⟩,.slice Ay b4.l.length cy] 25)):=bl _
         replace HN:=hid (HN.out.below hbx)
         replace NAy:=hid (NAy.out.below hbx)
         replace HO:=hid (HO.out.below hbx)
         have hx:=gw3 HP.out HC.out HZ.out hbx
         clear HP HC HZ hz hgl hbx
         obtain ⟨HP,HC,HZ,hz,hgl⟩:=hx
         replace hn1:=HN.out.lt
         have mm4 : True:=trivial
         rotate_left
       all_goals first
        | fail_if_success clear mm3
        |
         clear mm3
         refine wpAny_ready (rs:=[4]) (by kernel_rfl) (by simp) ?_
         refine AllReady.cons rfl (fun K hK => ?_) AllReady.nil
         have HPSZ : w5.drew.heap.size <= w6.heap.size:=HCP.out
         go_simp
         refine hK _ _ ?_
         clear hK K
         try simp only [Act.put,y1,y2,y3,y4,y5,y6]
         have HK1:=hid (KR.one_ NAy.out (S':=fun b => w5.drew.heap.size <= b) (fun _ h _ => h) (HPSZ) 25)
         have hbx : Below w6.heap.size w6 (w6.alloc (.cells #[.int .i64 b4.op,.string ⟨b4.nm.toArray⟩,.int .i64 b4.n,.string ⟨b4.t.toArray⟩,.slice Ay b4.l.length cy] 25)):=bl _
         replace HN:=hid (HN.out.below hbx)
         replace NAy:=hid (NAy.out.below hbx)
         replace HO:=hid (HO.out.below hbx)
         have hx:=gw3 HP.out HC.out HZ.out hbx
         clear HP HC HZ hz hgl hbx
         obtain ⟨HP,HC,HZ,hz,hgl⟩:=hx
         replace hn1:=HN.out.lt
         have mm5 : True:=trivial
         rotate_left
       all_goals first
        | fail_if_success clear mm4
        |
         clear mm4
         refine wpAny_ready (rs:=[1,5]) (by kernel_rfl) (by simp) ?_
         refine AllReady.cons rfl (fun K hK => ?_) ?_
         have k4:=HN.out.c4
         go_simp
         refine hK _ _ ?_
         clear hK K
         try simp only [Act.put,y1,y2,y3,y4,y5,y6]
         have mm5 : True:=trivial
         rotate_left
         refine AllReady.cons rfl (fun K hK => ?_) AllReady.nil
         go_simp
         refine (node_any 51 _ _ _ _).mono ?_
         rintro e w7 ⟨rfl,hb⟩
         replace HN:=hid (HN.out.below hb)
         replace NAy:=hid (NAy.out.below hb)
         replace HK1:=hid (HK1.out.below hb)
         replace HO:=hid (HO.out.below hb)
         have hx:=gw3 HP.out HC.out HZ.out hb
         clear HP HC HZ hz hgl hb
         obtain ⟨HP,HC,HZ,hz,hgl⟩:=hx
         replace hn1:=HN.out.lt
         have NAv:=hid (na_nd (op:=51) (s:=[]) (n:=0) (t:=[]) (l:=[b4]) (by first | assumption | omega | (constructor <;> omega)) (by omega) (by first | assumption | simp | omega) (by first | assumption | simp | omega) (by simp) HK1.out)
         unfold ndV
         refine hK _ _ ?_
         clear hK K
         try simp only [Act.put,y1,y2,y3,y4,y5,y6]
         have mm6 : True:=trivial
         rotate_left
       all_goals first
        | fail_if_success clear mm5
        |
         clear mm5
         refine wpAny_ready (rs:=[5]) (by kernel_rfl) (by simp) ?_
         refine AllReady.cons rfl (fun K hK => ?_) AllReady.nil
         go_simp
         refine (node_any 51 _ _ _ _).mono ?_
         rintro e w7 ⟨rfl,hb⟩
         replace HN:=hid (HN.out.below hb)
         replace NAy:=hid (NAy.out.below hb)
         replace HK1:=hid (HK1.out.below hb)
         replace HO:=hid (HO.out.below hb)
         have hx:=gw3 HP.out HC.out HZ.out hb
         clear HP HC HZ hz hgl hb
         obtain ⟨HP,HC,HZ,hz,hgl⟩:=hx
         replace hn1:=HN.out.lt
         have NAv:=hid (na_nd (op:=51) (s:=[]) (n:=0) (t:=[]) (l:=[b4]) (by first | assumption | omega | (constructor <;> omega)) (by omega) (by first | assumption | simp | omega) (by first | assumption | simp | omega) (by simp) HK1.out)
         unfold ndV
         refine hK _ _ ?_
         clear hK K
         try simp only [Act.put,y1,y2,y3,y4,y5,y6]
         have mm7 : True:=trivial
         rotate_left
       all_goals first
        | fail_if_success clear mm6
        |
         clear mm6
         refine wpAny_ready (rs:=[1,6]) (by kernel_rfl) (by simp) ?_
         refine AllReady.cons rfl (fun K hK => ?_) ?_
         have k4:=HN.out.c4
         go_simp
         refine hK _ _ ?_
         clear hK K
         try simp only [Act.put,y1,y2,y3,y4,y5,y6]
         have mm7 : True:=trivial
         rotate_left
         refine AllReady.cons rfl (fun K hK => ?_) AllReady.nil
         go_simp
         refine hK _ _ ?_
         clear hK K
         try simp only [Act.put,y1,y2,y3,y4,y5,y6]
         have HPr:=HP
         have HCr:=HC
         have HZr:=HZ
         have HNr:=HN
         have HOr:=HO
         have NAr:=NAv
         have hzr:=hz
         have hnr:=hn1
         have hbx : Below w7.heap.size w7 (w7.alloc (.cells #[.int .i64 51,.string ⟨#[]⟩,.int .i64 0,.string ⟨#[]⟩,.slice (some ⟨w6.heap.size,0,none⟩) 1 1] 25)):=bl _
         replace HN:=hid (HN.out.below hbx)
         replace NAy:=hid (NAy.out.below hbx)
         replace HK1:=hid (HK1.out.below hbx)
         replace NAv:=hid (NAv.out.below hbx)
         replace HO:=hid (HO.out.below hbx)
         have hx:=gw3 HP.out HC.out HZ.out hbx
         clear HP HC HZ hz hgl hbx
         obtain ⟨HP,HC,HZ,hz,hgl⟩:=hx
         replace hn1:=HN.out.lt
         have mm8 : True:=trivial
         rotate_left
       all_goals first
        | fail_if_success clear mm7
        |
         clear mm7
         refine wpAny_ready (rs:=[6]) (by kernel_rfl) (by simp) ?_
         refine AllReady.cons rfl (fun K hK => ?_) AllReady.nil
         go_simp
         refine hK _ _ ?_
         clear hK K
         try simp only [Act.put,y1,y2,y3,y4,y5,y6]
         have HPr:=HP
         have HCr:=HC
         have HZr:=HZ
         have HNr:=HN
         have HOr:=HO
         have NAr:=NAv
         have hzr:=hz
         have hnr:=hn1
         have hbx : Below w7.heap.size w7 (w7.alloc (.cells #[.int .i64 51,.string ⟨#[]⟩,.int .i64 0,.string ⟨#[]⟩,.slice (some ⟨w6.heap.size,0,none⟩) 1 1] 25)):=bl _
         replace HN:=hid (HN.out.below hbx)
         replace NAy:=hid (NAy.out.below hbx)
         replace HK1:=hid (HK1.out.below hbx)
         replace NAv:=hid (NAv.out.below hbx)
         replace HO:=hid (HO.out.below hbx)
         have hx:=gw3 HP.out HC.out HZ.out hbx
         clear HP HC HZ hz hgl hbx
         obtain ⟨HP,HC,HZ,hz,hgl⟩:=hx
         replace hn1:=HN.out.lt
         have mm9 : True:=trivial
         rotate_left
       all_goals first
        | fail_if_success clear mm8
        |
         clear mm8
         refine wpAny_ready (rs:=[1]) (by kernel_rfl) (by simp) ?_
         refine AllReady.cons rfl (fun K hK => ?_) AllReady.nil
         have k4:=HN.out.c4
         go_simp
         refine hK _ _ ?_
         clear hK K
         try simp only [Act.put,y1,y2,y3,y4,y5,y6]
         have mm9 : True:=trivial
         rotate_left
       all_goals first
        | fail_if_success clear mm9
        |
         clear mm9
         refine wpAny_ready (rs:=[7]) (by kernel_rfl) (by simp) ?_
         refine AllReady.cons rfl (fun K hK => ?_) AllReady.nil
         refine step_appS2 (acc.length + 1) (by rfl) _ _ (by rfl) (.slice A3 acc.length c3) acc (nd 51 [b4]) #[.int .i64 51,.string ⟨#[]⟩,.int .i64 0,.string ⟨#[]⟩,.slice (some ⟨w6.heap.size,0,none⟩) 1 1] (by rfl) HOr.out NAr.out (fun b hb hlt => ⟨⟨by have hb : w5.drew.heap.size <= b:=hb;omega,by have hb : w5.drew.heap.size <= b:=hb;omega⟩,fun e => by have:=(HLT.out b e).2;have hb : w5.drew.heap.size <= b:=hb;omega⟩) ⟨by omega,by omega⟩ (by rfl) (by omega) (by rfl) ?_
         intro A6 c6 w6 ho6 hg6
         replace HP:=hid (HPr.out.gr hg6 (fun j hj => by have:=(HLT.out j hj).1.1;omega))
         replace HC:=hid (HCr.out.gr hg6 (fun j hj => by have:=(HLT.out j hj).1.1;omega))
         replace HZ:=hid (HZr.out.gr hg6 (fun e => by have:=(HLT.out _ e).1.1;omega))
         replace HN:=hid (HNr.out.gr hg6 (fun e => (HLT.out _ e).1.2 rfl))
         replace HO:=hid ho6
         clear ho6 hg6 HPr HCr HZr HNr HOr NAr NAy NAv HK1 HLT
         replace hz:=HZ.out.lt
         replace hgl:=HP.out.lt
         replace hn1:=HN.out.lt
         refine hK _ _ ?_
         clear hK K
         try simp only [Act.put,y1,y2,y3,y4,y5,y6]
         refine wpAny_take (i:=8) (v:=?_) rfl (by kernel_rfl) (by kernel_rfl) (by kernel_rfl) (fun _ _ _ h => h) (Or.inl ⟨by rfl,?_⟩) ?_
         rotate_left
         ·
          intro w;go_simp
          first | done | with_reducible rfl
         try simp only [Act.put,y1,y2,y3,y4,y5,y6]
         have mm10 : True:=trivial
         rotate_left
       all_goals first
        | fail_if_success clear mm10
        |
         clear mm10
         refine wpAny_ready (rs:=[9]) (by kernel_rfl) (by simp) ?_
         refine AllReady.cons rfl (fun K hK => ?_) AllReady.nil
         have k4:=HN.out.c4
         have f4:=HN.out.free 4
         go_simp
         refine hK _ _ ?_
         clear hK K
         try simp only [Act.put,y1,y2,y3,y4,y5,y6]
         have GN:=hid (HN.out.st1 (A':=A6) (m':=acc.length + 1) (c':=c6))
         have GC:=hid (Ch.set w6 w1.heap.size 4 (.slice A6 (acc.length + 1) c6))
         replace HP:=hid (HP.out.chk GC.out (by omega))
         replace HZ:=hid (HZ.out.ch GC.out (by omega))
         replace HO:=hid (HO.out.ch GC.out (by simp))
         replace HC:=hid (HC.out.new GC.out (by omega))
         replace HN:=GN
         clear GC k4 f4
         generalize (w6.setCell ⟨w1.heap.size,4,none⟩ (.slice A6 (acc.length + 1) c6)) = w8 at *
         have k4:=HN.out.c4
         replace hz:=HZ.out.lt
         replace hgl:=HP.out.lt
         replace hn1:=HN.out.lt
         refine wpAny_done (by kernel_rfl) ?_ _
         rotate_left
       all_goals
        have hgt0 : decide (0 < (acc.length : Int) + 1) = true:=by simp <;> omega
        have hgt1 : (0 : Int) < (acc.length : Int) + 1:=by omega
        go_wp2_with fail
        refine (require_yes g _).mono ?_
        rintro e w9 ⟨rfl,hw⟩
        rw [hw] at HP HC HZ HN HO hz hgl hn1 k4
        clear hw
        go_wp2_with fail
        clear hgt0 hgt1
        obtain ⟨u,z,rfl⟩:=HP.out.fin.ex
        rcases Sy.inv_tk hE6 with ⟨h7,hE7⟩ | ⟨h7,rfl⟩
        ·
         obtain rfl:=Sy.inv_ret hE7
         clear hE6 hE7
         refine mv3 (take_yes g L u z ⟨#[125]⟩ _ HP.out h7 (by decide)) HC.out HZ.out hlt ?_
         clear HP HC HZ hz hgl
         intro w10 HP HC HZ hz hgl hc
         replace HN:=hid (HN.out.ch hc (by omega))
         replace HO:=hid (HO.out.ch hc (by simp;omega))
         replace hn1:=HN.out.lt
         clear hc
         have k0:=HN.out.c0
         have k1:=HN.out.c1
         have k2:=HN.out.c2
         have k3:=HN.out.c3
         have k4:=HN.out.c4
         have z0:=HZ.out.c0
         have f0:=HZ.out.free 0
         have z1:=HZ.out.c1
         have f1:=HZ.out.free 1
         have z2:=HZ.out.c2
         have f2:=HZ.out.free 2
         have z3:=HZ.out.c3
         have f3:=HZ.out.free 3
         have z4:=HZ.out.c4
         have f4:=HZ.out.free 4
         have NA9:=hid (na_nd (op:=49) (s:=[]) (n:=0) (t:=[]) (l:=acc ++ [nd 51 [b4]]) (by omega) (by omega) (by simp) (by simp) (by simp <;> omega) ((show KR w10 (fun b => w.heap.size < b /\ b ≠ w1.heap.size) (.slice A6 (acc ++ [nd 51 [b4]]).length c6) (acc ++ [nd 51 [b4]]) by simpa using HO.out.kr).more (S':=fun b => w.heap.size < b) (fun b hb _ => hb.1)))
         simp only [List.length_append,List.length_cons,List.length_nil,Nat.zero_add] at NA9
         go_wp2_with fail
         exact bodyPost_ret (v:=ndV 49 [] 0 [] A6 (acc.length + 1) c6) (by simp [results,Tryz.results201,go_sem,ndV,z0,z1,z2,z3,z4,f0,f1,f2,f3,f4]) rfl (fin_st HP.out HC.out hlt NA9.out)
        ·
         refine (take_no g L u z ⟨#[125]⟩ _ HP.out h7).mono ?_
         intro e wz hp
         obtain ⟨rfl,hc⟩:=hp
         go_wp2_with fail
         exact ⟨rfl,rfl,HC.out.trans hc⟩
     rcases Sy.inv_if hE5 with ⟨h7,hE6⟩ | ⟨h7,hE6⟩
     ·
      subst h7;simp at h4f
     have hpos0 : 0 < acc.length:=List.length_pos_iff.2 h7
     have hgt0 : decide ((0 : Int) < (acc.length : Int)) = true:=by simp;omega
     have hgt1 : (0 : Int) < (acc.length : Int):=by omega
     rcases Sy.inv_tk hE6 with ⟨h8,hE7⟩ | ⟨h8,rfl⟩
     ·
      obtain rfl:=Sy.inv_ret hE7
      clear hE7
      clear hE3 hE4 hE5 hE6 hm3 hfin3 h4
      go_wp2_with fail
      refine mv3 (skip_no g L t3 r3 ⟨#[101,108,115,101]⟩ _ HP.out h6) HC.out HZ.out hlt ?_
      clear HP HC HZ hz hgl
      intro w5 HP HC HZ hz hgl hc
      replace HN:=hid (HN.out.ch hc (by omega))
      replace HO:=hid (HO.out.ch hc (by simp;omega))
      replace hn1:=HN.out.lt
      clear hc
      have k4:=HN.out.c4
      go_wp2_with fail
      refine (require_yes g _).mono ?_
      rintro e w6 ⟨rfl,hw⟩
      rw [hw] at HP HC HZ HN HO hz hgl hn1 k4
      clear hw hgt0 hgt1
      go_wp2_with fail
      refine mv3 (take_yes g L t3 r3 ⟨#[125]⟩ _ HP.out h8 (by decide)) HC.out HZ.out hlt ?_
      clear HP HC HZ hz hgl
      intro w7 HP HC HZ hz hgl hc
      replace HN:=hid (HN.out.ch hc (by omega))
      replace HO:=hid (HO.out.ch hc (by simp;omega))
      replace hn1:=HN.out.lt
      clear hc
      have k0:=HN.out.c0
      have k1:=HN.out.c1
      have k2:=HN.out.c2
      have k3:=HN.out.c3
      have k4:=HN.out.c4
      have z0:=HZ.out.c0
      have f0:=HZ.out.free 0
      have z1:=HZ.out.c1
      have f1:=HZ.out.free 1
      have z2:=HZ.out.c2
      have f2:=HZ.out.free 2
      have z3:=HZ.out.c3
      have f3:=HZ.out.free 3
      have z4:=HZ.out.c4
      have f4:=HZ.out.free 4
      have NA9:=hid (na_nd (op:=49) (s:=[]) (n:=0) (t:=[]) (l:=acc) (by omega) (by omega) (by simp) (by simp) (by omega) (HO.out.kr.more (S':=fun b => w.heap.size < b) (fun b hb _ => hb.1)))
      go_wp2_with fail
      exact bodyPost_ret (v:=ndV 49 [] 0 [] A3 acc.length c3) (by simp [results,Tryz.results201,go_sem,ndV,z0,z1,z2,z3,z4,f0,f1,f2,f3,f4]) rfl (fin_st HP.out HC.out hlt NA9.out)
     ·
      clear hE3 hE4 hE5 hE6 hm3 hfin3 h4
      go_wp2_with fail
      refine mv3 (skip_no g L t3 r3 ⟨#[101,108,115,101]⟩ _ HP.out h6) HC.out HZ.out hlt ?_
      clear HP HC HZ hz hgl
      intro w5 HP HC HZ hz hgl hc
      replace HN:=hid (HN.out.ch hc (by omega))
      replace HO:=hid (HO.out.ch hc (by simp;omega))
      replace hn1:=HN.out.lt
      clear hc
      have k4:=HN.out.c4
      go_wp2_with fail
      refine (require_yes g _).mono ?_
      rintro e w6 ⟨rfl,hw⟩
      rw [hw] at HP HC HZ HN HO hz hgl hn1 k4
      clear hw hgt0 hgt1
      go_wp2_with fail
      refine (take_no g L t3 r3 ⟨#[125]⟩ _ HP.out h8).mono ?_
      intro e wz hp
      obtain ⟨rfl,hc⟩:=hp
      go_wp2_with fail
      exact ⟨rfl,rfl,HC.out.trans hc⟩
    ·
     have hlt16 : (acc.length : Int) < 16:=by omega
     have hlt16b : decide ((acc.length : Int) < 16) = true:=by simp;omega
     have h5 : fx (t3 :: r3) ≠ [99,97,115,101]:=fun e => h4 ⟨by omega,e⟩
     rcases Sy.inv_if hE4 with ⟨h6,hE5⟩ | ⟨h6,hE5⟩
     ·
      obtain ⟨m4,hm4,hF4⟩:=Sy.inv_cl hE5
      rcases hF4 with ⟨q4,hF4,rfl⟩ | ⟨b4,q4,hF4,hE6⟩
      all_goals have C2:=hid (fun W (hW : Pt W g L r3) => HH.out.block_ m4 (by omega) _ _ hF4 g L W hW)
      ·
       clear hE3 hE4 hE5 hF4 hm4 hm3 hfin3 h4
       go_wp2_with fail
       refine mv3 (skip_no g L t3 r3 ⟨#[99,97,115,101]⟩ _ HP.out h5) HC.out HZ.out hlt ?_
       clear HP HC HZ hz hgl
       intro w5 HP HC HZ hz hgl hc
       replace HN:=hid (HN.out.ch hc (by omega))
       replace HO:=hid (HO.out.ch hc (by simp;omega))
       replace hn1:=HN.out.lt
       clear hc
       go_wp2_with fail
       refine mv3 (skip_yes g L t3 r3 ⟨#[101,108,115,101]⟩ _ HP.out h6 (by decide)) HC.out HZ.out hlt ?_
       clear HP HC HZ hz hgl
       intro w6 HP HC HZ hz hgl hc
       replace HN:=hid (HN.out.ch hc (by omega))
       replace HO:=hid (HO.out.ch hc (by simp;omega))
       replace hn1:=HN.out.lt
       clear hc
       go_wp2_with fail
       refine wp_region_any (by kernel_rfl) ?_
       change wpAny _ _ _ _ _ _ _ (World.drew _)
       have hbx : Below w6.heap.size w6 w6.drew:=(Below.refl _ _).drew
       replace HN:=hid (HN.out.below hbx)
       replace HO:=hid (HO.out.below hbx)
       have hx:=gw3 HP.out HC.out HZ.out hbx
       clear HP HC HZ hz hgl hbx
       obtain ⟨HP,HC,HZ,hz,hgl⟩:=hx
       replace hn1:=HN.out.lt
       refine wpAny_take (i:=0) (v:=?_) rfl (by kernel_rfl) (by kernel_rfl) (by kernel_rfl) (fun _ _ _ h => h) (Or.inl ⟨by rfl,?_⟩) ?_
       rotate_left
       ·
        intro w;go_simp
        first | done | with_reducible rfl
       try simp only [Act.put,y1,y2,y3,y4,y5,y6]
       refine wpAny_take (i:=2) (v:=?_) rfl (by kernel_rfl) (by kernel_rfl) (by kernel_rfl) (fun _ _ _ h => h) (Or.inl ⟨by rfl,?_⟩) ?_
       rotate_left
       ·
        intro w;go_simp
        first | done | with_reducible rfl
       try simp only [Act.put,y1,y2,y3,y4,y5,y6]
       refine wpAny_ready (rs:=[1,3]) (by kernel_rfl) (by simp) ?_
       refine AllReady.cons rfl (fun K hK => ?_) ?_
       have k4:=HN.out.c4
       go_simp
       refine hK _ _ ?_
       clear hK K
       try simp only [Act.put,y1,y2,y3,y4,y5,y6]
       have mm1 : True:=trivial
       rotate_left
       refine AllReady.cons rfl (fun K hK => ?_) AllReady.nil
       go_simp
       refine (C2.out _ HP.out).mono ?_
       intro e wx hp
       obtain ⟨rfl,hcx⟩:=hp
       exact ⟨rfl,rfl,HC.out.trans hcx⟩
       all_goals first
        | fail_if_success clear mm1
        |
         clear mm1
         refine wpAny_ready (rs:=[3]) (by kernel_rfl) (by simp) ?_
         refine AllReady.cons rfl (fun K hK => ?_) AllReady.nil
         go_simp
         refine (C2.out _ HP.out).mono ?_
         intro e wx hp
         obtain ⟨rfl,hcx⟩:=hp
         exact ⟨rfl,rfl,HC.out.trans hcx⟩
      ·
       clear hE3 hE4 hE5 hF4 hm4 hm3 hfin3 h4
       go_wp2_with fail
       refine mv3 (skip_no g L t3 r3 ⟨#[99,97,115,101]⟩ _ HP.out h5) HC.out HZ.out hlt ?_
       clear HP HC HZ hz hgl
       intro w5 HP HC HZ hz hgl hc
       replace HN:=hid (HN.out.ch hc (by omega))
       replace HO:=hid (HO.out.ch hc (by simp;omega))
       replace hn1:=HN.out.lt
       clear hc
       go_wp2_with fail
       refine mv3 (skip_yes g L t3 r3 ⟨#[101,108,115,101]⟩ _ HP.out h6 (by decide)) HC.out HZ.out hlt ?_
       clear HP HC HZ hz hgl
       intro w6 HP HC HZ hz hgl hc
       replace HN:=hid (HN.out.ch hc (by omega))
       replace HO:=hid (HO.out.ch hc (by simp;omega))
       replace hn1:=HN.out.lt
       clear hc
       go_wp2_with fail
       refine wp_region_any (by kernel_rfl) ?_
       change wpAny _ _ _ _ _ _ _ (World.drew _)
       have hbx : Below w6.heap.size w6 w6.drew:=(Below.refl _ _).drew
       replace HN:=hid (HN.out.below hbx)
       replace HO:=hid (HO.out.below hbx)
       have hx:=gw3 HP.out HC.out HZ.out hbx
       clear HP HC HZ hz hgl hbx
       obtain ⟨HP,HC,HZ,hz,hgl⟩:=hx
       replace hn1:=HN.out.lt
       refine wpAny_take (i:=0) (v:=?_) rfl (by kernel_rfl) (by kernel_rfl) (by kernel_rfl) (fun _ _ _ h => h) (Or.inl ⟨by rfl,?_⟩) ?_
       rotate_left
       ·
        intro w;go_simp
        first | done | with_reducible rfl
       try simp only [Act.put,y1,y2,y3,y4,y5,y6]
       refine wpAny_take (i:=2) (v:=?_) rfl (by kernel_rfl) (by kernel_rfl) (by kernel_rfl) (fun _ _ _ h => h) (Or.inl ⟨by rfl,?_⟩) ?_
       rotate_left
       ·
        intro w;go_simp
        first | done | with_reducible rfl
       try simp only [Act.put,y1,y2,y3,y4,y5,y6]
       refine wpAny_ready (rs:=[1,3]) (by kernel_rfl) (by simp) ?_
       refine AllReady.cons rfl (fun K hK => ?_) ?_
       have k4:=HN.out.c4
       go_simp
       refine hK _ _ ?_
       clear hK K
       try simp only [Act.put,y1,y2,y3,y4,y5,y6]
       have mm1 : True:=trivial
       rotate_left
       refine AllReady.cons rfl (fun K hK => ?_) AllReady.nil
       go_simp
       have HLT:=hid HO.out.ob
       have hzp:=hz
       have hnp : w1.heap.size < w6.drew.heap.size:=HN.out.lt
       refine ok3 (S':=fun b => w6.drew.heap.size <= b) (C2.out _ HP.out) HC.out HZ.out hlt (fun b hb => hb) ?_
       clear HP HC HZ hz hgl
       intro Ay cy w7 NAy HP HC HZ hz hgl hc
       have HCS:=hid hc
       replace HN:=hid (HN.out.ch hc (by omega))
       replace HO:=hid (HO.out.ch hc (by simp;omega))
       replace hn1:=HN.out.lt
       clear hc
       unfold ndV
       have HCP:=hid (show w6.drew.heap.size <= w7.heap.size from HCS.out.size)
       refine hK _ _ ?_
       clear hK K
       try simp only [Act.put,y1,y2,y3,y4,y5,y6]
       have mm2 : True:=trivial
       rotate_left
       all_goals first
        | fail_if_success clear mm1
        |
         clear mm1
         refine wpAny_ready (rs:=[3]) (by kernel_rfl) (by simp) ?_
         refine AllReady.cons rfl (fun K hK => ?_) AllReady.nil
         go_simp
         have HLT:=hid HO.out.ob
         have hzp:=hz
         have hnp : w1.heap.size < w6.drew.heap.size:=HN.out.lt
         refine ok3 (S':=fun b => w6.drew.heap.size <= b) (C2.out _ HP.out) HC.out HZ.out hlt (fun b hb => hb) ?_
         clear HP HC HZ hz hgl
         intro Ay cy w7 NAy HP HC HZ hz hgl hc
         have HCS:=hid hc
         replace HN:=hid (HN.out.ch hc (by omega))
         replace HO:=hid (HO.out.ch hc (by simp;omega))
         replace hn1:=HN.out.lt
         clear hc
         unfold ndV
         have HCP:=hid (show w6.drew.heap.size <= w7.heap.size from HCS.out.size)
         refine hK _ _ ?_
         clear hK K
         try simp only [Act.put,y1,y2,y3,y4,y5,y6]
         have mm3 : True:=trivial
         rotate_left
       all_goals first
        | fail_if_success clear mm2
        |
         clear mm2
         refine wpAny_ready (rs:=[1,4]) (by kernel_rfl) (by simp) ?_
         refine AllReady.cons rfl (fun K hK => ?_) ?_
         have k4:=HN.out.c4
         go_simp
         refine hK _ _ ?_
         clear hK K
         try simp only [Act.put,y1,y2,y3,y4,y5,y6]
         have mm3 : True:=trivial
         rotate_left
         refine AllReady.cons rfl (fun K hK => ?_) AllReady.nil
         have HPSZ : w6.drew.heap.size <= w7.heap.size:=HCP.out
         go_simp
         refine hK _ _ ?_
         clear hK K
         try simp only [Act.put,y1,y2,y3,y4,y5,y6]
         have HK1:=hid (KR.one_ NAy.out (S':=fun b => w6.drew.heap.size <= b) (fun _ h _ => h) (HPSZ) 25)
         have hbx : Below w7.heap.size w7 (w7.alloc (.cells #[.int .i64 b4.op,.string ⟨b4.nm.toArray⟩,.int .i64 b4.n,.string ⟨b4.t.toArray⟩,.slice Ay b4.l.length cy] 25)):=bl _
         replace HN:=hid (HN.out.below hbx)
         replace NAy:=hid (NAy.out.below hbx)
         replace HO:=hid (HO.out.below hbx)
         have hx:=gw3 HP.out HC.out HZ.out hbx
         clear HP HC HZ hz hgl hbx
         obtain ⟨HP,HC,HZ,hz,hgl⟩:=hx
         replace hn1:=HN.out.lt
         have mm4 : True:=trivial
         rotate_left
       all_goals first
        | fail_if_success clear mm3
        |
         clear mm3
         refine wpAny_ready (rs:=[4]) (by kernel_rfl) (by simp) ?_
         refine AllReady.cons rfl (fun K hK => ?_) AllReady.nil
         have HPSZ : w6.drew.heap.size <= w7.heap.size:=HCP.out
         go_simp
         refine hK _ _ ?_
         clear hK K
         try simp only [Act.put,y1,y2,y3,y4,y5,y6]
         have HK1:=hid (KR.one_ NAy.out (S':=fun b => w6.drew.heap.size <= b) (fun _ h _ => h) (HPSZ) 25)
         have hbx : Below w7.heap.size w7 (w7.alloc (.cells #[.int .i64 b4.op,.string ⟨b4.nm.toArray⟩,.int .i64 b4.n,.string ⟨b4.t.toArray⟩,.slice Ay b4.l.length cy] 25)):=bl _
         replace HN:=hid (HN.out.below hbx)
         replace NAy:=hid (NAy.out.below hbx)
         replace HO:=hid (HO.out.below hbx)
         have hx:=gw3 HP.out HC.out HZ.out hbx
         clear HP HC HZ hz hgl hbx
         obtain ⟨HP,HC,HZ,hz,hgl⟩:=hx
         replace hn1:=HN.out.lt
         have mm5 : True:=trivial
         rotate_left
       all_goals first
        | fail_if_success clear mm4
        |
         clear mm4
         refine wpAny_ready (rs:=[1,5]) (by kernel_rfl) (by simp) ?_
         refine AllReady.cons rfl (fun K hK => ?_) ?_
         have k4:=HN.out.c4
         go_simp
         refine hK _ _ ?_
         clear hK K
         try simp only [Act.put,y1,y2,y3,y4,y5,y6]
         have mm5 : True:=trivial
         rotate_left
         refine AllReady.cons rfl (fun K hK => ?_) AllReady.nil
         go_simp
         refine (node_any 51 _ _ _ _).mono ?_
         rintro e w8 ⟨rfl,hb⟩
         replace HN:=hid (HN.out.below hb)
         replace NAy:=hid (NAy.out.below hb)
         replace HK1:=hid (HK1.out.below hb)
         replace HO:=hid (HO.out.below hb)
         have hx:=gw3 HP.out HC.out HZ.out hb
         clear HP HC HZ hz hgl hb
         obtain ⟨HP,HC,HZ,hz,hgl⟩:=hx
         replace hn1:=HN.out.lt
         have NAv:=hid (na_nd (op:=51) (s:=[]) (n:=0) (t:=[]) (l:=[b4]) (by first | assumption | omega | (constructor <;> omega)) (by omega) (by first | assumption | simp | omega) (by first | assumption | simp | omega) (by simp) HK1.out)
         unfold ndV
         refine hK _ _ ?_
         clear hK K
         try simp only [Act.put,y1,y2,y3,y4,y5,y6]
         have mm6 : True:=trivial
         rotate_left
       all_goals first
        | fail_if_success clear mm5
        |
         clear mm5
         refine wpAny_ready (rs:=[5]) (by kernel_rfl) (by simp) ?_
         refine AllReady.cons rfl (fun K hK => ?_) AllReady.nil
         go_simp
         refine (node_any 51 _ _ _ _).mono ?_
         rintro e w8 ⟨rfl,hb⟩
         replace HN:=hid (HN.out.below hb)
         replace NAy:=hid (NAy.out.below hb)
         replace HK1:=hid (HK1.out.below hb)
         replace HO:=hid (HO.out.below hb)
         have hx:=gw3 HP.out HC.out HZ.out hb
         clear HP HC HZ hz hgl hb
         obtain ⟨HP,HC,HZ,hz,hgl⟩:=hx
         replace hn1:=HN.out.lt
         have NAv:=hid (na_nd (op:=51) (s:=[]) (n:=0) (t:=[]) (l:=[b4]) (by first | assumption | omega | (constructor <;> omega)) (by omega) (by first | assumption | simp | omega) (by first | assumption | simp | omega) (by simp) HK1.out)
         unfold ndV
         refine hK _ _ ?_
         clear hK K
         try simp only [Act.put,y1,y2,y3,y4,y5,y6]
         have mm7 : True:=trivial
         rotate_left
       all_goals first
        | fail_if_success clear mm6
        |
         clear mm6
         refine wpAny_ready (rs:=[1,6]) (by kernel_rfl) (by simp) ?_
         refine AllReady.cons rfl (fun K hK => ?_) ?_
         have k4:=HN.out.c4
         go_simp
         refine hK _ _ ?_
         clear hK K
         try simp only [Act.put,y1,y2,y3,y4,y5,y6]
         have mm7 : True:=trivial
         rotate_left
         refine AllReady.cons rfl (fun K hK => ?_) AllReady.nil
         go_simp
         refine hK _ _ ?_
         clear hK K
         try simp only [Act.put,y1,y2,y3,y4,y5,y6]
         have HPr:=HP
         have HCr:=HC
         have HZr:=HZ
         have HNr:=HN
         have HOr:=HO
         have NAr:=NAv
         have hzr:=hz
         have hnr:=hn1
         have hbx : Below w8.heap.size w8 (w8.alloc (.cells #[.int .i64 51,.string ⟨#[]⟩,.int .i64 0,.string ⟨#[]⟩,.slice (some ⟨w7.heap.size,0,none⟩) 1 1] 25)):=bl _
         replace HN:=hid (HN.out.below hbx)
         replace NAy:=hid (NAy.out.below hbx)
         replace HK1:=hid (HK1.out.below hbx)
         replace NAv:=hid (NAv.out.below hbx)
         replace HO:=hid (HO.out.below hbx)
         have hx:=gw3 HP.out HC.out HZ.out hbx
         clear HP HC HZ hz hgl hbx
         obtain ⟨HP,HC,HZ,hz,hgl⟩:=hx
         replace hn1:=HN.out.lt
         have mm8 : True:=trivial
         rotate_left
       all_goals first
        | fail_if_success clear mm7
        |
         clear mm7
         refine wpAny_ready (rs:=[6]) (by kernel_rfl) (by simp) ?_
         refine AllReady.cons rfl (fun K hK => ?_) AllReady.nil
         go_simp
         refine hK _ _ ?_
         clear hK K
         try simp only [Act.put,y1,y2,y3,y4,y5,y6]
         have HPr:=HP
         have HCr:=HC
         have HZr:=HZ
         have HNr:=HN
         have HOr:=HO
         have NAr:=NAv
         have hzr:=hz
         have hnr:=hn1
         have hbx : Below w8.heap.size w8 (w8.alloc (.cells #[.int .i64 51,.string ⟨#[]⟩,.int .i64 0,.string ⟨#[]⟩,.slice (some ⟨w7.heap.size,0,none⟩) 1 1] 25)):=bl _
         replace HN:=hid (HN.out.below hbx)
         replace NAy:=hid (NAy.out.below hbx)
         replace HK1:=hid (HK1.out.below hbx)
         replace NAv:=hid (NAv.out.below hbx)
         replace HO:=hid (HO.out.below hbx)
         have hx:=gw3 HP.out HC.out HZ.out hbx
         clear HP HC HZ hz hgl hbx
         obtain ⟨HP,HC,HZ,hz,hgl⟩:=hx
         replace hn1:=HN.out.lt
         have mm9 : True:=trivial
         rotate_left
       all_goals first
        | fail_if_success clear mm8
        |
         clear mm8
         refine wpAny_ready (rs:=[1]) (by kernel_rfl) (by simp) ?_
         refine AllReady.cons rfl (fun K hK => ?_) AllReady.nil
         have k4:=HN.out.c4
         go_simp
         refine hK _ _ ?_
         clear hK K
         try simp only [Act.put,y1,y2,y3,y4,y5,y6]
         have mm9 : True:=trivial
         rotate_left
       all_goals first
        | fail_if_success clear mm9
        |
         clear mm9
         refine wpAny_ready (rs:=[7]) (by kernel_rfl) (by simp) ?_
         refine AllReady.cons rfl (fun K hK => ?_) AllReady.nil
         refine step_appS2 (acc.length + 1) (by rfl) _ _ (by rfl) (.slice A3 acc.length c3) acc (nd 51 [b4]) #[.int .i64 51,.string ⟨#[]⟩,.int .i64 0,.string ⟨#[]⟩,.slice (some ⟨w7.heap.size,0,none⟩) 1 1] (by rfl) HOr.out NAr.out (fun b hb hlt => ⟨⟨by have hb : w6.drew.heap.size <= b:=hb;omega,by have hb : w6.drew.heap.size <= b:=hb;omega⟩,fun e => by have:=(HLT.out b e).2;have hb : w6.drew.heap.size <= b:=hb;omega⟩) ⟨by omega,by omega⟩ (by rfl) (by omega) (by rfl) ?_
         intro A6 c6 w6 ho6 hg6
         replace HP:=hid (HPr.out.gr hg6 (fun j hj => by have:=(HLT.out j hj).1.1;omega))
         replace HC:=hid (HCr.out.gr hg6 (fun j hj => by have:=(HLT.out j hj).1.1;omega))
         replace HZ:=hid (HZr.out.gr hg6 (fun e => by have:=(HLT.out _ e).1.1;omega))
         replace HN:=hid (HNr.out.gr hg6 (fun e => (HLT.out _ e).1.2 rfl))
         replace HO:=hid ho6
         clear ho6 hg6 HPr HCr HZr HNr HOr NAr NAy NAv HK1 HLT
         replace hz:=HZ.out.lt
         replace hgl:=HP.out.lt
         replace hn1:=HN.out.lt
         refine hK _ _ ?_
         clear hK K
         try simp only [Act.put,y1,y2,y3,y4,y5,y6]
         refine wpAny_take (i:=8) (v:=?_) rfl (by kernel_rfl) (by kernel_rfl) (by kernel_rfl) (fun _ _ _ h => h) (Or.inl ⟨by rfl,?_⟩) ?_
         rotate_left
         ·
          intro w;go_simp
          first | done | with_reducible rfl
         try simp only [Act.put,y1,y2,y3,y4,y5,y6]
         have mm10 : True:=trivial
         rotate_left
       all_goals first
        | fail_if_success clear mm10
        |
         clear mm10
         refine wpAny_ready (rs:=[9]) (by kernel_rfl) (by simp) ?_
         refine AllReady.cons rfl (fun K hK => ?_) AllReady.nil
         have k4:=HN.out.c4
         have f4:=HN.out.free 4
         go_simp
         refine hK _ _ ?_
         clear hK K
         try simp only [Act.put,y1,y2,y3,y4,y5,y6]
         have GN:=hid (HN.out.st1 (A':=A6) (m':=acc.length + 1) (c':=c6))
         have GC:=hid (Ch.set w6 w1.heap.size 4 (.slice A6 (acc.length + 1) c6))
         replace HP:=hid (HP.out.chk GC.out (by omega))
         replace HZ:=hid (HZ.out.ch GC.out (by omega))
         replace HO:=hid (HO.out.ch GC.out (by simp))
         replace HC:=hid (HC.out.new GC.out (by omega))
         replace HN:=GN
         clear GC k4 f4
         generalize (w6.setCell ⟨w1.heap.size,4,none⟩ (.slice A6 (acc.length + 1) c6)) = w9 at *
         have k4:=HN.out.c4
         replace hz:=HZ.out.lt
         replace hgl:=HP.out.lt
         replace hn1:=HN.out.lt
         refine wpAny_done (by kernel_rfl) ?_ _
         rotate_left
       all_goals
        have hgt0 : decide (0 < (acc.length : Int) + 1) = true:=by simp <;> omega
        have hgt1 : (0 : Int) < (acc.length : Int) + 1:=by omega
        go_wp2_with fail
        refine (require_yes g _).mono ?_
        rintro e w10 ⟨rfl,hw⟩
        rw [hw] at HP HC HZ HN HO hz hgl hn1 k4
        clear hw
        go_wp2_with fail
        clear hgt0 hgt1
        obtain ⟨u,z,rfl⟩:=HP.out.fin.ex
        rcases Sy.inv_tk hE6 with ⟨h7,hE7⟩ | ⟨h7,rfl⟩
        ·
         obtain rfl:=Sy.inv_ret hE7
         clear hE6 hE7
         refine mv3 (take_yes g L u z ⟨#[125]⟩ _ HP.out h7 (by decide)) HC.out HZ.out hlt ?_
         clear HP HC HZ hz hgl
         intro w11 HP HC HZ hz hgl hc
         replace HN:=hid (HN.out.ch hc (by omega))
         replace HO:=hid (HO.out.ch hc (by simp;omega))
         replace hn1:=HN.out.lt
         clear hc
         have k0:=HN.out.c0
         have k1:=HN.out.c1
         have k2:=HN.out.c2
         have k3:=HN.out.c3
         have k4:=HN.out.c4
         have z0:=HZ.out.c0
         have f0:=HZ.out.free 0
         have z1:=HZ.out.c1
         have f1:=HZ.out.free 1
         have z2:=HZ.out.c2
         have f2:=HZ.out.free 2
         have z3:=HZ.out.c3
         have f3:=HZ.out.free 3
         have z4:=HZ.out.c4
         have f4:=HZ.out.free 4
         have NA9:=hid (na_nd (op:=49) (s:=[]) (n:=0) (t:=[]) (l:=acc ++ [nd 51 [b4]]) (by omega) (by omega) (by simp) (by simp) (by simp <;> omega) ((show KR w11 (fun b => w.heap.size < b /\ b ≠ w1.heap.size) (.slice A6 (acc ++ [nd 51 [b4]]).length c6) (acc ++ [nd 51 [b4]]) by simpa using HO.out.kr).more (S':=fun b => w.heap.size < b) (fun b hb _ => hb.1)))
         simp only [List.length_append,List.length_cons,List.length_nil,Nat.zero_add] at NA9
         go_wp2_with fail
         exact bodyPost_ret (v:=ndV 49 [] 0 [] A6 (acc.length + 1) c6) (by simp [results,Tryz.results201,go_sem,ndV,z0,z1,z2,z3,z4,f0,f1,f2,f3,f4]) rfl (fin_st HP.out HC.out hlt NA9.out)
        ·
         refine (take_no g L u z ⟨#[125]⟩ _ HP.out h7).mono ?_
         intro e wz hp
         obtain ⟨rfl,hc⟩:=hp
         go_wp2_with fail
         exact ⟨rfl,rfl,HC.out.trans hc⟩
     rcases Sy.inv_if hE5 with ⟨h7,hE6⟩ | ⟨h7,hE6⟩
     ·
      obtain rfl:=Sy.inv_ret hE6
      subst h7
      clear hE3 hE4 hE5 hE6 hm3 hfin3 h4
      go_wp2_with fail
      refine mv3 (skip_no g L t3 r3 ⟨#[99,97,115,101]⟩ _ HP.out h5) HC.out HZ.out hlt ?_
      clear HP HC HZ hz hgl
      intro w5 HP HC HZ hz hgl hc
      replace HN:=hid (HN.out.ch hc (by omega))
      replace HO:=hid (HO.out.ch hc (by simp;omega))
      replace hn1:=HN.out.lt
      clear hc
      go_wp2_with fail
      refine mv3 (skip_no g L t3 r3 ⟨#[101,108,115,101]⟩ _ HP.out h6) HC.out HZ.out hlt ?_
      clear HP HC HZ hz hgl
      intro w6 HP HC HZ hz hgl hc
      replace HN:=hid (HN.out.ch hc (by omega))
      replace HO:=hid (HO.out.ch hc (by simp;omega))
      replace hn1:=HN.out.lt
      clear hc
      have k4:=HN.out.c4
      go_wp2_with fail
      refine (require_no g L t3 r3 _ HP.out).mono ?_
      rintro e wz ⟨rfl,hb⟩
      go_wp2_with fail
      exact ⟨rfl,rfl,HC.out.trans (Ch.of_below hb)⟩
     have hpos0 : 0 < acc.length:=List.length_pos_iff.2 h7
     have hgt0 : decide ((0 : Int) < (acc.length : Int)) = true:=by simp;omega
     have hgt1 : (0 : Int) < (acc.length : Int):=by omega
     rcases Sy.inv_tk hE6 with ⟨h8,hE7⟩ | ⟨h8,rfl⟩
     ·
      obtain rfl:=Sy.inv_ret hE7
      clear hE7
      clear hE3 hE4 hE5 hE6 hm3 hfin3 h4
      go_wp2_with fail
      refine mv3 (skip_no g L t3 r3 ⟨#[99,97,115,101]⟩ _ HP.out h5) HC.out HZ.out hlt ?_
      clear HP HC HZ hz hgl
      intro w5 HP HC HZ hz hgl hc
      replace HN:=hid (HN.out.ch hc (by omega))
      replace HO:=hid (HO.out.ch hc (by simp;omega))
      replace hn1:=HN.out.lt
      clear hc
      go_wp2_with fail
      refine mv3 (skip_no g L t3 r3 ⟨#[101,108,115,101]⟩ _ HP.out h6) HC.out HZ.out hlt ?_
      clear HP HC HZ hz hgl
      intro w6 HP HC HZ hz hgl hc
      replace HN:=hid (HN.out.ch hc (by omega))
      replace HO:=hid (HO.out.ch hc (by simp;omega))
      replace hn1:=HN.out.lt
      clear hc
      have k4:=HN.out.c4
      go_wp2_with fail
      refine (require_yes g _).mono ?_
      rintro e w7 ⟨rfl,hw⟩
      rw [hw] at HP HC HZ HN HO hz hgl hn1 k4
      clear hw hgt0 hgt1
      go_wp2_with fail
      refine mv3 (take_yes g L t3 r3 ⟨#[125]⟩ _ HP.out h8 (by decide)) HC.out HZ.out hlt ?_
      clear HP HC HZ hz hgl
      intro w8 HP HC HZ hz hgl hc
      replace HN:=hid (HN.out.ch hc (by omega))
      replace HO:=hid (HO.out.ch hc (by simp;omega))
      replace hn1:=HN.out.lt
      clear hc
      have k0:=HN.out.c0
      have k1:=HN.out.c1
      have k2:=HN.out.c2
      have k3:=HN.out.c3
      have k4:=HN.out.c4
      have z0:=HZ.out.c0
      have f0:=HZ.out.free 0
      have z1:=HZ.out.c1
      have f1:=HZ.out.free 1
      have z2:=HZ.out.c2
      have f2:=HZ.out.free 2
      have z3:=HZ.out.c3
      have f3:=HZ.out.free 3
      have z4:=HZ.out.c4
      have f4:=HZ.out.free 4
      have NA9:=hid (na_nd (op:=49) (s:=[]) (n:=0) (t:=[]) (l:=acc) (by omega) (by omega) (by simp) (by simp) (by omega) (HO.out.kr.more (S':=fun b => w.heap.size < b) (fun b hb _ => hb.1)))
      go_wp2_with fail
      exact bodyPost_ret (v:=ndV 49 [] 0 [] A3 acc.length c3) (by simp [results,Tryz.results201,go_sem,ndV,z0,z1,z2,z3,z4,f0,f1,f2,f3,f4]) rfl (fin_st HP.out HC.out hlt NA9.out)
     ·
      clear hE3 hE4 hE5 hE6 hm3 hfin3 h4
      go_wp2_with fail
      refine mv3 (skip_no g L t3 r3 ⟨#[99,97,115,101]⟩ _ HP.out h5) HC.out HZ.out hlt ?_
      clear HP HC HZ hz hgl
      intro w5 HP HC HZ hz hgl hc
      replace HN:=hid (HN.out.ch hc (by omega))
      replace HO:=hid (HO.out.ch hc (by simp;omega))
      replace hn1:=HN.out.lt
      clear hc
      go_wp2_with fail
      refine mv3 (skip_no g L t3 r3 ⟨#[101,108,115,101]⟩ _ HP.out h6) HC.out HZ.out hlt ?_
      clear HP HC HZ hz hgl
      intro w6 HP HC HZ hz hgl hc
      replace HN:=hid (HN.out.ch hc (by omega))
      replace HO:=hid (HO.out.ch hc (by simp;omega))
      replace hn1:=HN.out.lt
      clear hc
      have k4:=HN.out.c4
      go_wp2_with fail
      refine (require_yes g _).mono ?_
      rintro e w7 ⟨rfl,hw⟩
      rw [hw] at HP HC HZ HN HO hz hgl hn1 k4
      clear hw hgt0 hgt1
      go_wp2_with fail
      refine (take_no g L t3 r3 ⟨#[125]⟩ _ HP.out h8).mono ?_
      intro e wz hp
      obtain ⟨rfl,hc⟩:=hp
      go_wp2_with fail
      exact ⟨rfl,rfl,HC.out.trans hc⟩
 ·
  clear hE H
  have HP : Hid (Pt (w.alloc zNode) g L (t :: s)):=h.below (bl _)
  have HC : Hid (Ch g w (w.alloc zNode)):=Ch.of_below (bl _)
  have HZ : Hid (Nb (w.alloc zNode) w.heap.size 0 [] 0 [] none 0 0):=Nb.zero
  have hz:=HZ.out.lt
  have hgl:=HP.out.lt
  clear h
  go_enter Tryz.func201,Tryz.ntmps201
  go_wp2_with fail
  refine (node_any 49 none 0 0 _).mono ?_
  rintro e w1 ⟨rfl,hb⟩
  have hk:=(KR.nil_ (w:=w1) (S:=fun b => w.heap.size < b))
  have hB : Below (w.alloc zNode).heap.size (w.alloc zNode) w1:=hb
  have hx:=gw3 HP.out HC.out HZ.out hB
  clear HP HC HZ hz hgl hB
  obtain ⟨HP,HC,HZ,hz,hgl⟩:=hx
  have NAY:=hid (na_nd (op:=49) (s:=[]) (n:=0) (t:=[]) (l:=[]) (by first | omega | (constructor <;> omega) | assumption) (by omega) (by first | assumption | simp | omega) (by first | assumption | simp | omega) (by simp) hk)
  clear hk hb
  unfold ndV
  have hB01 : w.heap.size < w1.heap.size:=hz
  have hgB1 : g < w1.heap.size:=hgl
  have hgHN : g < w1.heap.size:=hgl
  have hzHN : w.heap.size < w1.heap.size:=hz
  have HN : Hid (Nb (w1.alloc (.cells #[.int .i64 49,.string ⟨([]).toArray⟩,.int .i64 0,.string ⟨([]).toArray⟩,.slice none 0 0] 25)) w1.heap.size 49 ([]) 0 ([]) none 0 0):=Nb.new
  have hbx : Below w1.heap.size w1 (w1.alloc (.cells #[.int .i64 49,.string ⟨([]).toArray⟩,.int .i64 0,.string ⟨([]).toArray⟩,.slice none 0 0] 25)):=bl _
  replace NAY:=hid (NAY.out.below hbx)
  have hx:=gw3 HP.out HC.out HZ.out hbx
  clear HP HC HZ hz hgl hbx
  obtain ⟨HP,HC,HZ,hz,hgl⟩:=hx
  have HO : Hid (OwnS (w1.alloc (.cells #[.int .i64 49,.string ⟨([]).toArray⟩,.int .i64 0,.string ⟨([]).toArray⟩,.slice none 0 0] 25)) (fun b => w.heap.size < b /\ b ≠ w1.heap.size) (.slice none 0 0) []):=OwnS.nil_
  go_wp2_with fail
  refine (take_no g L t s ⟨#[123]⟩ _ HP.out h1).mono ?_
  intro e wz hp
  obtain ⟨rfl,hc⟩:=hp
  go_wp2_with fail
  exact ⟨rfl,rfl,HC.out.trans hc⟩
end Go.Proofs.YtgeppafcemeidaaGreatDoor
