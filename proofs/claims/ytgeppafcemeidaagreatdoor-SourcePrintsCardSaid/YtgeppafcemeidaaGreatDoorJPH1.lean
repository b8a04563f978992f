/-
  Texts of a proof, joined: functions of the program and of its reference by contract, and what holds of trees, tokens and bytes.
-/
import Derived.Test.YtgeppafcemeidaaGreatDoorJPA2
set_option linter.unusedVariables false
set_option linter.unusedSimpArgs false
set_option maxRecDepth 100000
set_option maxHeartbeats 8000000
namespace Go.Proofs.YtgeppafcemeidaaGreatDoor
open Go.RowKit
open Sy (N NT R Ev Run Pg fx hd body opnd inf RunN EvN nd nmd)
open Tk (T)
open Sy (Fin TB)
attribute [local go_sem ↓] Tryz.field0 Tryz.field1
theorem handler_c (n : Nat) (H : AllS n) (op : Int) (ho0 : 0 <= op) (ho1 : op <= 100) (l : List T) (r : R) (hE : EvN n (.handler op) l r) : CG 88 op l r:=by
 intro g L w h
 have hlt:=h.lt
 obtain ⟨t,s,rfl⟩:=h.fin.ex
 have htt:=h.fin.tb.2.2.1
 have HH:=hid H
 rcases Sy.inv_nm (show RunN n (Sy.nm (t :: s) fun s1 r => Sy.tk [40] r fun r => Sy.nm r fun t1 r => Sy.tk [41] r fun r =>
  if op = 65 /\ fx r = [99,104,101,99,107] then Sy.cl .block r.tail fun a r => Sy.cl .block r fun b r => .ret (.ok (.mk op s1 0 t1 [a,b]) r)
  else Sy.cl .block r fun b r => .ret (.ok (.mk op s1 0 t1 [b]) r)) r from hE) with ⟨h1,hE1⟩ | ⟨h1,rfl⟩
 ·
  have hf2:=h.fin.tail (show t.k ≠ 0 by have : t.k = 1:=h1;omega)
  obtain ⟨u,z,rfl⟩:=hf2.ex
  clear hE H
  have HP : Hid (Pt (w.alloc zNode) g L (t :: u :: z)):=h.below (bl _)
  have HC : Hid (Ch g w (w.alloc zNode)):=Ch.of_below (bl _)
  have HZ : Hid (Nb (w.alloc zNode) w.heap.size 0 [] 0 [] none 0 0):=Nb.zero
  have hz:=HZ.out.lt
  have hgl:=HP.out.lt
  clear h
  go_enter Tryz.func88,Tryz.ntmps88
  go_wp2_with fail
  refine mv3 (name_yes g L t (u :: z) _ HP.out h1) HC.out HZ.out hlt ?_
  clear HP HC HZ hz hgl
  intro w1 HP HC HZ hz hgl hc
  clear hc
  go_wp2_with fail
  refine (named_any op t.t none 0 0 _).mono ?_
  rintro e w2 ⟨rfl,hb⟩
  have hk:=(KR.nil_ (w:=w2) (S:=fun b => w.heap.size < b))
  have hB : Below w1.heap.size w1 w2:=hb
  have hx:=gw3 HP.out HC.out HZ.out hB
  clear HP HC HZ hz hgl hB
  obtain ⟨HP,HC,HZ,hz,hgl⟩:=hx
  have NAY:=hid (na_nd (op:=op) (s:=t.t) (n:=0) (t:=[]) (l:=[]) (by first | omega | (constructor <;> omega) | assumption) (by omega) (by first | assumption | simp | omega) (by first | assumption | simp | omega) (by simp) hk)
  clear hk hb
  unfold ndV
  have hgHN : g < w2.heap.size:=hgl
  have hzHN : w.heap.size < w2.heap.size:=hz
  have HN : Hid (Nb (w2.alloc (.cells #[.int .i64 op,.string ⟨(t.t).toArray⟩,.int .i64 0,.string ⟨([]).toArray⟩,.slice none 0 0] 25)) w2.heap.size op (t.t) 0 ([]) none 0 0):=Nb.new
  have hbx : Below w2.heap.size w2 (w2.alloc (.cells #[.int .i64 op,.string ⟨(t.t).toArray⟩,.int .i64 0,.string ⟨([]).toArray⟩,.slice none 0 0] 25)):=bl _
  replace NAY:=hid (NAY.out.below hbx)
  have hx:=gw3 HP.out HC.out HZ.out hbx
  clear HP HC HZ hz hgl hbx
  obtain ⟨HP,HC,HZ,hz,hgl⟩:=hx
  have HO : Hid (OwnS (w2.alloc (.cells #[.int .i64 op,.string ⟨(t.t).toArray⟩,.int .i64 0,.string ⟨([]).toArray⟩,.slice none 0 0] 25)) (fun b => w.heap.size < b /\ b ≠ w2.heap.size) (.slice none 0 0) []):=OwnS.nil_
  go_wp2_with fail
  rcases Sy.inv_tk hE1 with ⟨h2,hE2⟩ | ⟨h2,rfl⟩
  ·
   have hf3:=hf2.tail (Sy.fx_k h2 (by decide))
   obtain ⟨u2,z2,rfl⟩:=hf3.ex
   have htu:=hf3.tb.2.2.1
   refine mv3 (take_yes g L u (u2 :: z2) ⟨#[40]⟩ _ HP.out h2 (by decide)) HC.out HZ.out hlt ?_
   clear HP HC HZ hz hgl
   intro w3 HP HC HZ hz hgl hc
   replace HN:=hid (HN.out.ch hc (by omega))
   replace HO:=hid (HO.out.ch hc (by simp;omega))
   clear hc
   go_wp2_with fail
   rcases Sy.inv_nm hE2 with ⟨h3,hE3⟩ | ⟨h3,rfl⟩
   ·
    have hf4:=hf3.tail (show u2.k ≠ 0 by have : u2.k = 1:=h3;omega)
    obtain ⟨u3,z3,rfl⟩:=hf4.ex
    refine mv3 (name_yes g L u2 (u3 :: z3) _ HP.out h3) HC.out HZ.out hlt ?_
    clear HP HC HZ hz hgl
    intro w4 HP HC HZ hz hgl hc
    replace HN:=hid (HN.out.ch hc (by omega))
    replace HO:=hid (HO.out.ch hc (by simp;omega))
    clear hc
    have k0:=HN.out.c0
    have k1:=HN.out.c1
    have k2:=HN.out.c2
    have k3:=HN.out.c3
    have k4:=HN.out.c4
    have f3:=HN.out.free 3
    go_wp2_with fail
    have GN:=hid (HN.out.stt (s':=u2.t))
    have GC:=hid (Ch.set w4 w2.heap.size 3 (.string ⟨u2.t.toArray⟩))
    replace HP:=hid (HP.out.chk GC.out (by omega))
    replace HZ:=hid (HZ.out.ch GC.out (by omega))
    replace HO:=hid (HO.out.ch GC.out (by simp))
    replace HC:=hid (HC.out.new GC.out (by omega))
    replace HN:=GN
    clear GC k0 k1 k2 k3 k4 f3
    generalize (w4.setCell ⟨w2.heap.size,3,none⟩ (.string ⟨u2.t.toArray⟩)) = w5 at *
    replace hz:=HZ.out.lt
    replace hgl:=HP.out.lt
    rcases Sy.inv_tk hE3 with ⟨h4,hE4⟩ | ⟨h4,rfl⟩
    ·
     have hf5:=hf4.tail (Sy.fx_k h4 (by decide))
     obtain ⟨u4,z4,rfl⟩:=hf5.ex
     clear hE1 hE2 hE3 hf2 hf3 hf4
     refine mv3 (take_yes g L u3 (u4 :: z4) ⟨#[41]⟩ _ HP.out h4 (by decide)) HC.out HZ.out hlt ?_
     clear HP HC HZ hz hgl
     intro w6 HP HC HZ hz hgl hc
     replace HN:=hid (HN.out.ch hc (by omega))
     replace HO:=hid (HO.out.ch hc (by simp;omega))
     clear hc
     rcases Sy.inv_if hE4 with ⟨⟨h5,h6⟩,hE5⟩ | ⟨h5,hE5⟩
     ·
      have hf6:=HP.out.fin.tail (Sy.fx_k h6 (by decide))
      obtain ⟨u5,z5,rfl⟩:=hf6.ex
      clear hf6
      have hbo : (op == 65) = true:=by simpa using h5
      clear h5 hE4
      go_wp2_with fail
      refine mv3 (skip_yes g L u4 (u5 :: z5) ⟨#[99,104,101,99,107]⟩ _ HP.out h6 (by decide)) HC.out HZ.out hlt ?_
      clear HP HC HZ hz hgl
      intro w7 HP HC HZ hz hgl hc
      replace HN:=hid (HN.out.ch hc (by omega))
      replace HO:=hid (HO.out.ch hc (by simp;omega))
      clear hc
      go_wp2_with fail
      obtain ⟨m1,hm1,hF1⟩:=Sy.inv_cl hE5
      rcases hF1 with ⟨q1,hF1,rfl⟩ | ⟨e1,q1,hF1,hE6⟩
      all_goals have C1:=hid (fun W (hW : Pt W g L (u5 :: z5)) => HH.out.block_ m1 (by omega) _ _ hF1 g L W hW)
      all_goals clear hF1 hE5
      ·
       refine wp_region_any (by kernel_rfl) ?_
       change wpAny _ _ _ _ _ _ _ (World.drew _)
       have hbx : Below w7.heap.size w7 w7.drew:=(Below.refl _ _).drew
       replace HN:=hid (HN.out.below hbx)
       replace HO:=hid (HO.out.below hbx)
       have hx:=gw3 HP.out HC.out HZ.out hbx
       clear HP HC HZ hz hgl hbx
       obtain ⟨HP,HC,HZ,hz,hgl⟩:=hx
       refine wpAny_take (i:=0) (v:=?_) rfl (by kernel_rfl) (by kernel_rfl) (by kernel_rfl) (fun _ _ _ h => h) (Or.inl ⟨by rfl,?_⟩) ?_
       rotate_left
       ·
        intro w;go_simp
        first | done | with_reducible rfl
       try simp only [Act.put,y1,y2,y3,y4,y5,y6]
       refine wpAny_take (i:=2) (v:=?_) rfl (by kernel_rfl) (by kernel_rfl) (by kernel_rfl) (fun _ _ _ h => h) (Or.inl ⟨by rfl,?_⟩) ?_
       rotate_left
       ·
        intro w;go_simp
        first | done | with_reducible rfl
       try simp only [Act.put,y1,y2,y3,y4,y5,y6]
       refine wpAny_ready (rs:=[1,3]) (by kernel_rfl) (by simp) ?_
       refine AllReady.cons rfl (fun K hK => ?_) ?_
       have k4:=HN.out.c4
       go_simp
       refine hK _ _ ?_
       clear hK K
       try simp only [Act.put,y1,y2,y3,y4,y5,y6]
       have mm1 : True:=trivial
       rotate_left
       refine AllReady.cons rfl (fun K hK => ?_) AllReady.nil
       go_simp
       refine (C1.out _ HP.out).mono ?_
       intro e wx hp
       obtain ⟨rfl,hcx⟩:=hp
       exact ⟨rfl,rfl,HC.out.trans hcx⟩
       all_goals first
        | fail_if_success clear mm1
        |
         clear mm1
         refine wpAny_ready (rs:=[3]) (by kernel_rfl) (by simp) ?_
         refine AllReady.cons rfl (fun K hK => ?_) AllReady.nil
         go_simp
         refine (C1.out _ HP.out).mono ?_
         intro e wx hp
         obtain ⟨rfl,hcx⟩:=hp
         exact ⟨rfl,rfl,HC.out.trans hcx⟩
      ·
       refine wp_region_any (by kernel_rfl) ?_
       change wpAny _ _ _ _ _ _ _ (World.drew _)
       have hbx : Below w7.heap.size w7 w7.drew:=(Below.refl _ _).drew
       replace HN:=hid (HN.out.below hbx)
       replace HO:=hid (HO.out.below hbx)
       have hx:=gw3 HP.out HC.out HZ.out hbx
       clear HP HC HZ hz hgl hbx
       obtain ⟨HP,HC,HZ,hz,hgl⟩:=hx
       refine wpAny_take (i:=0) (v:=?_) rfl (by kernel_rfl) (by kernel_rfl) (by kernel_rfl) (fun _ _ _ h => h) (Or.inl ⟨by rfl,?_⟩) ?_
       rotate_left
       ·
        intro w;go_simp
        first | done | with_reducible rfl
       try simp only [Act.put,y1,y2,y3,y4,y5,y6]
       refine wpAny_take (i:=2) (v:=?_) rfl (by kernel_rfl) (by kernel_rfl) (by kernel_rfl) (fun _ _ _ h => h) (Or.inl ⟨by rfl,?_⟩) ?_
       rotate_left
       ·
        intro w;go_simp
        first | done | with_reducible rfl
       try simp only [Act.put,y1,y2,y3,y4,y5,y6]
       refine wpAny_ready (rs:=[1,3]) (by kernel_rfl) (by simp) ?_
       refine AllReady.cons rfl (fun K hK => ?_) ?_
       have k4:=HN.out.c4
       go_simp
       refine hK _ _ ?_
       clear hK K
       try simp only [Act.put,y1,y2,y3,y4,y5,y6]
       have mm1 : True:=trivial
       rotate_left
       refine AllReady.cons rfl (fun K hK => ?_) AllReady.nil
       go_simp
       have HLT:=hid HO.out.ob
       have hzp:=hz
       have hnp : w2.heap.size < w7.drew.heap.size:=HN.out.lt
       refine ok3 (S':=fun b => w7.drew.heap.size <= b) (C1.out _ HP.out) HC.out HZ.out hlt (fun b hb => hb) ?_
       clear HP HC HZ hz hgl
       intro Av cv w8 NAv HP HC HZ hz hgl hc
       replace HN:=hid (HN.out.ch hc (by omega))
       replace HO:=hid (HO.out.ch hc (by simp;omega))
       clear hc
       unfold ndV
       refine hK _ _ ?_
       clear hK K
       try simp only [Act.put,y1,y2,y3,y4,y5,y6]
       have mm2 : True:=trivial
       rotate_left
       all_goals first
        | fail_if_success clear mm1
        |
         clear mm1
         refine wpAny_ready (rs:=[3]) (by kernel_rfl) (by simp) ?_
         refine AllReady.cons rfl (fun K hK => ?_) AllReady.nil
         go_simp
         have HLT:=hid HO.out.ob
         have hzp:=hz
         have hnp : w2.heap.size < w7.drew.heap.size:=HN.out.lt
         refine ok3 (S':=fun b => w7.drew.heap.size <= b) (C1.out _ HP.out) HC.out HZ.out hlt (fun b hb => hb) ?_
         clear HP HC HZ hz hgl
         intro Av cv w8 NAv HP HC HZ hz hgl hc
         replace HN:=hid (HN.out.ch hc (by omega))
         replace HO:=hid (HO.out.ch hc (by simp;omega))
         clear hc
         unfold ndV
         refine hK _ _ ?_
         clear hK K
         try simp only [Act.put,y1,y2,y3,y4,y5,y6]
         have mm3 : True:=trivial
         rotate_left
       all_goals first
        | fail_if_success clear mm2
        |
         clear mm2
         refine wpAny_ready (rs:=[1,4]) (by kernel_rfl) (by simp) ?_
         refine AllReady.cons rfl (fun K hK => ?_) ?_
         have k4:=HN.out.c4
         go_simp
         refine hK _ _ ?_
         clear hK K
         try simp only [Act.put,y1,y2,y3,y4,y5,y6]
         have mm3 : True:=trivial
         rotate_left
         refine AllReady.cons rfl (fun K hK => ?_) AllReady.nil
         go_simp
         refine hK _ _ ?_
         clear hK K
         try simp only [Act.put,y1,y2,y3,y4,y5,y6]
         have HPr:=HP
         have HCr:=HC
         have HZr:=HZ
         have HNr:=HN
         have HOr:=HO
         have NAr:=NAv
         have hzr:=hz
         have hnr : w2.heap.size < w8.heap.size:=HN.out.lt
         have hbx : Below w8.heap.size w8 (w8.alloc (.cells #[.int .i64 e1.op,.string ⟨e1.nm.toArray⟩,.int .i64 e1.n,.string ⟨e1.t.toArray⟩,.slice Av e1.l.length cv] 25)):=bl _
         replace HN:=hid (HN.out.below hbx)
         replace NAv:=hid (NAv.out.below hbx)
         replace HO:=hid (HO.out.below hbx)
         have hx:=gw3 HP.out HC.out HZ.out hbx
         clear HP HC HZ hz hgl hbx
         obtain ⟨HP,HC,HZ,hz,hgl⟩:=hx
         have mm4 : True:=trivial
         rotate_left
       all_goals first
        | fail_if_success clear mm3
        |
         clear mm3
         refine wpAny_ready (rs:=[4]) (by kernel_rfl) (by simp) ?_
         refine AllReady.cons rfl (fun K hK => ?_) AllReady.nil
         go_simp
         refine hK _ _ ?_
         clear hK K
         try simp only [Act.put,y1,y2,y3,y4,y5,y6]
         have HPr:=HP
         have HCr:=HC
         have HZr:=HZ
         have HNr:=HN
         have HOr:=HO
         have NAr:=NAv
         have hzr:=hz
         have hnr : w2.heap.size < w8.heap.size:=HN.out.lt
         have hbx : Below w8.heap.size w8 (w8.alloc (.cells #[.int .i64 e1.op,.string ⟨e1.nm.toArray⟩,.int .i64 e1.n,.string ⟨e1.t.toArray⟩,.slice Av e1.l.length cv] 25)):=bl _
         replace HN:=hid (HN.out.below hbx)
         replace NAv:=hid (NAv.out.below hbx)
         replace HO:=hid (HO.out.below hbx)
         have hx:=gw3 HP.out HC.out HZ.out hbx
         clear HP HC HZ hz hgl hbx
         obtain ⟨HP,HC,HZ,hz,hgl⟩:=hx
         have mm5 : True:=trivial
         rotate_left
       all_goals first
        | fail_if_success clear mm4
        |
         clear mm4
         refine wpAny_ready (rs:=[1]) (by kernel_rfl) (by simp) ?_
         refine AllReady.cons rfl (fun K hK => ?_) AllReady.nil
         have k4:=HN.out.c4
         go_simp
         refine hK _ _ ?_
         clear hK K
         try simp only [Act.put,y1,y2,y3,y4,y5,y6]
         have mm5 : True:=trivial
         rotate_left
       all_goals first
        | fail_if_success clear mm5
        |
         clear mm5
         refine wpAny_ready (rs:=[5]) (by kernel_rfl) (by simp) ?_
         refine AllReady.cons rfl (fun K hK => ?_) AllReady.nil
         refine step_appS2 (1) (by rfl) _ _ (by rfl) (.slice none 0 0) [] e1 #[.int .i64 e1.op,.string ⟨e1.nm.toArray⟩,.int .i64 e1.n,.string ⟨e1.t.toArray⟩,.slice Av e1.l.length cv] (by rfl) HOr.out NAr.out (fun b hb hlt => ⟨⟨by have hb : w7.drew.heap.size <= b:=hb;omega,by have hb : w7.drew.heap.size <= b:=hb;omega⟩,fun e => by have:=(HLT.out b e).2;have hb : w7.drew.heap.size <= b:=hb;omega⟩) ⟨by omega,by omega⟩ (by rfl) (by simp) (by rfl) ?_
         intro A6 c6 w6 ho6 hg6
         replace HP:=hid (HPr.out.gr hg6 (fun j hj => by have:=(HLT.out j hj).1.1;omega))
         replace HC:=hid (HCr.out.gr hg6 (fun j hj => by have:=(HLT.out j hj).1.1;omega))
         replace HZ:=hid (HZr.out.gr hg6 (fun e => by have:=(HLT.out _ e).1.1;omega))
         replace HN:=hid (HNr.out.gr hg6 (fun e => (HLT.out _ e).1.2 rfl))
         replace HO:=hid ho6
         clear ho6 hg6 HPr HCr HZr HNr HOr NAr NAv HLT
         replace hz:=HZ.out.lt
         replace hgl:=HP.out.lt
         refine hK _ _ ?_
         clear hK K
         try simp only [Act.put,y1,y2,y3,y4,y5,y6]
         refine wpAny_take (i:=6) (v:=?_) rfl (by kernel_rfl) (by kernel_rfl) (by kernel_rfl) (fun _ _ _ h => h) (Or.inl ⟨by rfl,?_⟩) ?_
         rotate_left
         ·
          intro w;go_simp
          first | done | with_reducible rfl
         try simp only [Act.put,y1,y2,y3,y4,y5,y6]
         have mm6 : True:=trivial
         rotate_left
       all_goals first
        | fail_if_success clear mm6
        |
         clear mm6
         refine wpAny_ready (rs:=[7]) (by kernel_rfl) (by simp) ?_
         refine AllReady.cons rfl (fun K hK => ?_) AllReady.nil
         have k4:=HN.out.c4
         have f4:=HN.out.free 4
         go_simp
         refine hK _ _ ?_
         clear hK K
         try simp only [Act.put,y1,y2,y3,y4,y5,y6]
         have GN:=hid (HN.out.st1 (A':=A6) (m':=1) (c':=c6))
         have GC:=hid (Ch.set w6 w2.heap.size 4 (.slice A6 (1) c6))
         replace HP:=hid (HP.out.chk GC.out (by omega))
         replace HZ:=hid (HZ.out.ch GC.out (by omega))
         replace HO:=hid (HO.out.ch GC.out (by simp))
         replace HC:=hid (HC.out.new GC.out (by omega))
         replace HN:=GN
         clear GC k4 f4
         generalize (w6.setCell ⟨w2.heap.size,4,none⟩ (.slice A6 (1) c6)) = w9 at *
         replace hz:=HZ.out.lt
         replace hgl:=HP.out.lt
         refine wpAny_done (by kernel_rfl) ?_ _
         rotate_left
       all_goals
        go_wp2_with fail
        obtain ⟨m2,hm2,hF2⟩:=Sy.inv_cl hE6
        rcases hF2 with ⟨q2,hF2,rfl⟩ | ⟨e2,q2,hF2,hE9⟩
        all_goals have C2:=hid (fun W (hW : Pt W g L q1) => HH.out.block_ m2 (by omega) _ _ hF2 g L W hW)
        all_goals clear hF2 hE6 hm2
        ·
         refine wp_region_any (by kernel_rfl) ?_
         change wpAny _ _ _ _ _ _ _ (World.drew _)
         have hbx : Below w9.heap.size w9 w9.drew:=(Below.refl _ _).drew
         replace HN:=hid (HN.out.below hbx)
         replace HO:=hid (HO.out.below hbx)
         have hx:=gw3 HP.out HC.out HZ.out hbx
         clear HP HC HZ hz hgl hbx
         obtain ⟨HP,HC,HZ,hz,hgl⟩:=hx
         refine wpAny_take (i:=0) (v:=?_) rfl (by kernel_rfl) (by kernel_rfl) (by kernel_rfl) (fun _ _ _ h => h) (Or.inl ⟨by rfl,?_⟩) ?_
         rotate_left
         ·
          intro w;go_simp
          first | done | with_reducible rfl
         try simp only [Act.put,y1,y2,y3,y4,y5,y6]
         refine wpAny_take (i:=2) (v:=?_) rfl (by kernel_rfl) (by kernel_rfl) (by kernel_rfl) (fun _ _ _ h => h) (Or.inl ⟨by rfl,?_⟩) ?_
         rotate_left
         ·
          intro w;go_simp
          first | done | with_reducible rfl
         try simp only [Act.put,y1,y2,y3,y4,y5,y6]
         refine wpAny_ready (rs:=[1,3]) (by kernel_rfl) (by simp) ?_
         refine AllReady.cons rfl (fun K hK => ?_) ?_
         have k4:=HN.out.c4
         go_simp
         refine hK _ _ ?_
         clear hK K
         try simp only [Act.put,y1,y2,y3,y4,y5,y6]
         have mm1 : True:=trivial
         rotate_left
         refine AllReady.cons rfl (fun K hK => ?_) AllReady.nil
         go_simp
         refine (C2.out _ HP.out).mono ?_
         intro e wx hp
         obtain ⟨rfl,hcx⟩:=hp
         exact ⟨rfl,rfl,HC.out.trans hcx⟩
         all_goals first
          | fail_if_success clear mm1
          |
           clear mm1
           refine wpAny_ready (rs:=[3]) (by kernel_rfl) (by simp) ?_
           refine AllReady.cons rfl (fun K hK => ?_) AllReady.nil
           go_simp
           refine (C2.out _ HP.out).mono ?_
           intro e wx hp
           obtain ⟨rfl,hcx⟩:=hp
           exact ⟨rfl,rfl,HC.out.trans hcx⟩
        ·
         obtain rfl:=Sy.inv_ret hE9
         clear hE9
         refine wp_region_any (by kernel_rfl) ?_
         change wpAny _ _ _ _ _ _ _ (World.drew _)
         have hbx : Below w9.heap.size w9 w9.drew:=(Below.refl _ _).drew
         replace HN:=hid (HN.out.below hbx)
         replace HO:=hid (HO.out.below hbx)
         have hx:=gw3 HP.out HC.out HZ.out hbx
         clear HP HC HZ hz hgl hbx
         obtain ⟨HP,HC,HZ,hz,hgl⟩:=hx
         refine wpAny_take (i:=0) (v:=?_) rfl (by kernel_rfl) (by kernel_rfl) (by kernel_rfl) (fun _ _ _ h => h) (Or.inl ⟨by rfl,?_⟩) ?_
         rotate_left
         ·
          intro w;go_simp
          first | done | with_reducible rfl
         try simp only [Act.put,y1,y2,y3,y4,y5,y6]
         refine wpAny_take (i:=2) (v:=?_) rfl (by kernel_rfl) (by kernel_rfl) (by kernel_rfl) (fun _ _ _ h => h) (Or.inl ⟨by rfl,?_⟩) ?_
         rotate_left
         ·
          intro w;go_simp
          first | done | with_reducible rfl
         try simp only [Act.put,y1,y2,y3,y4,y5,y6]
         refine wpAny_ready (rs:=[1,3]) (by kernel_rfl) (by simp) ?_
         refine AllReady.cons rfl (fun K hK => ?_) ?_
         have k4:=HN.out.c4
         go_simp
         refine hK _ _ ?_
         clear hK K
         try simp only [Act.put,y1,y2,y3,y4,y5,y6]
         have mm1 : True:=trivial
         rotate_left
         refine AllReady.cons rfl (fun K hK => ?_) AllReady.nil
         go_simp
         have HLT:=hid HO.out.ob
         have hzp:=hz
         have hnp : w2.heap.size < w9.drew.heap.size:=HN.out.lt
         refine ok3 (S':=fun b => w9.drew.heap.size <= b) (C2.out _ HP.out) HC.out HZ.out hlt (fun b hb => hb) ?_
         clear HP HC HZ hz hgl
         intro Av cv w10 NAv HP HC HZ hz hgl hc
         replace HN:=hid (HN.out.ch hc (by omega))
         replace HO:=hid (HO.out.ch hc (by simp;omega))
         clear hc
         unfold ndV
         refine hK _ _ ?_
         clear hK K
         try simp only [Act.put,y1,y2,y3,y4,y5,y6]
         have mm2 : True:=trivial
         rotate_left
         all_goals first
          | fail_if_success clear mm1
          |
           clear mm1
           refine wpAny_ready (rs:=[3]) (by kernel_rfl) (by simp) ?_
           refine AllReady.cons rfl (fun K hK => ?_) AllReady.nil
           go_simp
           have HLT:=hid HO.out.ob
           have hzp:=hz
           have hnp : w2.heap.size < w9.drew.heap.size:=HN.out.lt
           refine ok3 (S':=fun b => w9.drew.heap.size <= b) (C2.out _ HP.out) HC.out HZ.out hlt (fun b hb => hb) ?_
           clear HP HC HZ hz hgl
           intro Av cv w10 NAv HP HC HZ hz hgl hc
           replace HN:=hid (HN.out.ch hc (by omega))
           replace HO:=hid (HO.out.ch hc (by simp;omega))
           clear hc
           unfold ndV
           refine hK _ _ ?_
           clear hK K
           try simp only [Act.put,y1,y2,y3,y4,y5,y6]
           have mm3 : True:=trivial
           rotate_left
         all_goals first
          | fail_if_success clear mm2
          |
           clear mm2
           refine wpAny_ready (rs:=[1,4]) (by kernel_rfl) (by simp) ?_
           refine AllReady.cons rfl (fun K hK => ?_) ?_
           have k4:=HN.out.c4
           go_simp
           refine hK _ _ ?_
           clear hK K
           try simp only [Act.put,y1,y2,y3,y4,y5,y6]
           have mm3 : True:=trivial
           rotate_left
           refine AllReady.cons rfl (fun K hK => ?_) AllReady.nil
           go_simp
           refine hK _ _ ?_
           clear hK K
           try simp only [Act.put,y1,y2,y3,y4,y5,y6]
           have HPr:=HP
           have HCr:=HC
           have HZr:=HZ
           have HNr:=HN
           have HOr:=HO
           have NAr:=NAv
           have hzr:=hz
           have hnr : w2.heap.size < w10.heap.size:=HN.out.lt
           have hbx : Below w10.heap.size w10 (w10.alloc (.cells #[.int .i64 e2.op,.string ⟨e2.nm.toArray⟩,.int .i64 e2.n,.string ⟨e2.t.toArray⟩,.slice Av e2.l.length cv] 25)):=bl _
           replace HN:=hid (HN.out.below hbx)
           replace NAv:=hid (NAv.out.below hbx)
           replace HO:=hid (HO.out.below hbx)
           have hx:=gw3 HP.out HC.out HZ.out hbx
           clear HP HC HZ hz hgl hbx
           obtain ⟨HP,HC,HZ,hz,hgl⟩:=hx
           have mm4 : True:=trivial
           rotate_left
         all_goals first
          | fail_if_success clear mm3
          |
           clear mm3
           refine wpAny_ready (rs:=[4]) (by kernel_rfl) (by simp) ?_
           refine AllReady.cons rfl (fun K hK => ?_) AllReady.nil
           go_simp
           refine hK _ _ ?_
           clear hK K
           try simp only [Act.put,y1,y2,y3,y4,y5,y6]
           have HPr:=HP
           have HCr:=HC
           have HZr:=HZ
           have HNr:=HN
           have HOr:=HO
           have NAr:=NAv
           have hzr:=hz
           have hnr : w2.heap.size < w10.heap.size:=HN.out.lt
           have hbx : Below w10.heap.size w10 (w10.alloc (.cells #[.int .i64 e2.op,.string ⟨e2.nm.toArray⟩,.int .i64 e2.n,.string ⟨e2.t.toArray⟩,.slice Av e2.l.length cv] 25)):=bl _
           replace HN:=hid (HN.out.below hbx)
           replace NAv:=hid (NAv.out.below hbx)
           replace HO:=hid (HO.out.below hbx)
           have hx:=gw3 HP.out HC.out HZ.out hbx
           clear HP HC HZ hz hgl hbx
           obtain ⟨HP,HC,HZ,hz,hgl⟩:=hx
           have mm5 : True:=trivial
           rotate_left
         all_goals first
          | fail_if_success clear mm4
          |
           clear mm4
           refine wpAny_ready (rs:=[1]) (by kernel_rfl) (by simp) ?_
           refine AllReady.cons rfl (fun K hK => ?_) AllReady.nil
           have k4:=HN.out.c4
           go_simp
           refine hK _ _ ?_
           clear hK K
           try simp only [Act.put,y1,y2,y3,y4,y5,y6]
           have mm5 : True:=trivial
           rotate_left
         all_goals first
          | fail_if_success clear mm5
          |
           clear mm5
           refine wpAny_ready (rs:=[5]) (by kernel_rfl) (by simp) ?_
           refine AllReady.cons rfl (fun K hK => ?_) AllReady.nil
           refine step_appS2 (2) (by rfl) _ _ (by rfl) (.slice A6 1 c6) [e1] e2 #[.int .i64 e2.op,.string ⟨e2.nm.toArray⟩,.int .i64 e2.n,.string ⟨e2.t.toArray⟩,.slice Av e2.l.length cv] (by rfl) HOr.out NAr.out (fun b hb hlt => ⟨⟨by have hb : w9.drew.heap.size <= b:=hb;omega,by have hb : w9.drew.heap.size <= b:=hb;omega⟩,fun e => by have:=(HLT.out b e).2;have hb : w9.drew.heap.size <= b:=hb;omega⟩) ⟨by omega,by omega⟩ (by rfl) (by simp) (by rfl) ?_
           intro A6 c6 w6 ho6 hg6
           replace HP:=hid (HPr.out.gr hg6 (fun j hj => by have:=(HLT.out j hj).1.1;omega))
           replace HC:=hid (HCr.out.gr hg6 (fun j hj => by have:=(HLT.out j hj).1.1;omega))
           replace HZ:=hid (HZr.out.gr hg6 (fun e => by have:=(HLT.out _ e).1.1;omega))
           replace HN:=hid (HNr.out.gr hg6 (fun e => (HLT.out _ e).1.2 rfl))
           replace HO:=hid ho6
           clear ho6 hg6 HPr HCr HZr HNr HOr NAr NAv HLT
           replace hz:=HZ.out.lt
           replace hgl:=HP.out.lt
           refine hK _ _ ?_
           clear hK K
           try simp only [Act.put,y1,y2,y3,y4,y5,y6]
           refine wpAny_take (i:=6) (v:=?_) rfl (by kernel_rfl) (by kernel_rfl) (by kernel_rfl) (fun _ _ _ h => h) (Or.inl ⟨by rfl,?_⟩) ?_
           rotate_left
           ·
            intro w;go_simp
            first | done | with_reducible rfl
           try simp only [Act.put,y1,y2,y3,y4,y5,y6]
           have mm6 : True:=trivial
           rotate_left
         all_goals first
          | fail_if_success clear mm6
          |
           clear mm6
           refine wpAny_ready (rs:=[7]) (by kernel_rfl) (by simp) ?_
           refine AllReady.cons rfl (fun K hK => ?_) AllReady.nil
           have k4:=HN.out.c4
           have f4:=HN.out.free 4
           go_simp
           refine hK _ _ ?_
           clear hK K
           try simp only [Act.put,y1,y2,y3,y4,y5,y6]
           have GN:=hid (HN.out.st1 (A':=A6) (m':=2) (c':=c6))
           have GC:=hid (Ch.set w6 w2.heap.size 4 (.slice A6 (2) c6))
           replace HP:=hid (HP.out.chk GC.out (by omega))
           replace HZ:=hid (HZ.out.ch GC.out (by omega))
           replace HO:=hid (HO.out.ch GC.out (by simp))
           replace HC:=hid (HC.out.new GC.out (by omega))
           replace HN:=GN
           clear GC k4 f4
           generalize (w6.setCell ⟨w2.heap.size,4,none⟩ (.slice A6 (2) c6)) = w11 at *
           replace hz:=HZ.out.lt
           replace hgl:=HP.out.lt
           refine wpAny_done (by kernel_rfl) ?_ _
           rotate_left
         all_goals
          have k0:=HN.out.c0
          have k1:=HN.out.c1
          have k2:=HN.out.c2
          have k3:=HN.out.c3
          have k4:=HN.out.c4
          have z0:=HZ.out.c0
          have f0:=HZ.out.free 0
          have z1:=HZ.out.c1
          have f1:=HZ.out.free 1
          have z2:=HZ.out.c2
          have f2:=HZ.out.free 2
          have z3:=HZ.out.c3
          have f3:=HZ.out.free 3
          have z4:=HZ.out.c4
          have f4:=HZ.out.free 4
          have NA9:=hid (na_nd (op:=op) (s:=t.t) (n:=0) (t:=u2.t) (l:=[e1,e2]) ⟨ho0,ho1⟩ (by omega) htt htu (by simp) (HO.out.kr.more (S':=fun b => w.heap.size < b) (fun b hb _ => hb.1)))
          go_wp2_with fail
          exact bodyPost_ret (v:=ndV op t.t 0 u2.t A6 2 c6) (by simp [results,Tryz.results88,go_sem,ndV,z0,z1,z2,z3,z4,f0,f1,f2,f3,f4]) rfl (fin_st HP.out HC.out hlt NA9.out)
     ·
      by_cases h7 : op = 65
      ·
       have hbo : (op == 65) = true:=by simpa using h7
       have h8 : fx (u4 :: z4) ≠ [99,104,101,99,107]:=fun e => h5 ⟨h7,e⟩
       clear h5 h7 hE4
       go_wp2_with fail
       refine mv3 (skip_no g L u4 z4 ⟨#[99,104,101,99,107]⟩ _ HP.out h8) HC.out HZ.out hlt ?_
       clear HP HC HZ hz hgl
       intro w7 HP HC HZ hz hgl hc
       replace HN:=hid (HN.out.ch hc (by omega))
       replace HO:=hid (HO.out.ch hc (by simp;omega))
       clear hc
       go_wp2_with fail
       obtain ⟨m2,hm2,hF2⟩:=Sy.inv_cl hE5
       rcases hF2 with ⟨q2,hF2,rfl⟩ | ⟨e2,q2,hF2,hE9⟩
       all_goals have C2:=hid (fun W (hW : Pt W g L (u4 :: z4)) => HH.out.block_ m2 (by omega) _ _ hF2 g L W hW)
       all_goals clear hF2 hE5 hm2 HH
       ·
        refine wp_region_any (by kernel_rfl) ?_
        change wpAny _ _ _ _ _ _ _ (World.drew _)
        have hbx : Below w7.heap.size w7 w7.drew:=(Below.refl _ _).drew
        replace HN:=hid (HN.out.below hbx)
        replace HO:=hid (HO.out.below hbx)
        have hx:=gw3 HP.out HC.out HZ.out hbx
        clear HP HC HZ hz hgl hbx
        obtain ⟨HP,HC,HZ,hz,hgl⟩:=hx
        refine wpAny_take (i:=0) (v:=?_) rfl (by kernel_rfl) (by kernel_rfl) (by kernel_rfl) (fun _ _ _ h => h) (Or.inl ⟨by rfl,?_⟩) ?_
        rotate_left
        ·
         intro w;go_simp
         first | done | with_reducible rfl
        try simp only [Act.put,y1,y2,y3,y4,y5,y6]
        refine wpAny_take (i:=2) (v:=?_) rfl (by kernel_rfl) (by kernel_rfl) (by kernel_rfl) (fun _ _ _ h => h) (Or.inl ⟨by rfl,?_⟩) ?_
        rotate_left
        ·
         intro w;go_simp
         first | done | with_reducible rfl
        try simp only [Act.put,y1,y2,y3,y4,y5,y6]
        refine wpAny_ready (rs:=[1,3]) (by kernel_rfl) (by simp) ?_
        refine AllReady.cons rfl (fun K hK => ?_) ?_
        have k4:=HN.out.c4
        go_simp
        refine hK _ _ ?_
        clear hK K
        try simp only [Act.put,y1,y2,y3,y4,y5,y6]
        have mm1 : True:=trivial
        rotate_left
        refine AllReady.cons rfl (fun K hK => ?_) AllReady.nil
        go_simp
        refine (C2.out _ HP.out).mono ?_
        intro e wx hp
        obtain ⟨rfl,hcx⟩:=hp
        exact ⟨rfl,rfl,HC.out.trans hcx⟩
        all_goals first
         | fail_if_success clear mm1
         |
          clear mm1
          refine wpAny_ready (rs:=[3]) (by kernel_rfl) (by simp) ?_
          refine AllReady.cons rfl (fun K hK => ?_) AllReady.nil
          go_simp
          refine (C2.out _ HP.out).mono ?_
          intro e wx hp
          obtain ⟨rfl,hcx⟩:=hp
          exact ⟨rfl,rfl,HC.out.trans hcx⟩
       ·
        obtain rfl:=Sy.inv_ret hE9
        clear hE9
        refine wp_region_any (by kernel_rfl) ?_
        change wpAny _ _ _ _ _ _ _ (World.drew _)
        have hbx : Below w7.heap.size w7 w7.drew:=(Below.refl _ _).drew
        replace HN:=hid (HN.out.below hbx)
        replace HO:=hid (HO.out.below hbx)
        have hx:=gw3 HP.out HC.out HZ.out hbx
        clear HP HC HZ hz hgl hbx
        obtain ⟨HP,HC,HZ,hz,hgl⟩:=hx
        refine wpAny_take (i:=0) (v:=?_) rfl (by kernel_rfl) (by kernel_rfl) (by kernel_rfl) (fun _ _ _ h => h) (Or.inl ⟨by rfl,?_⟩) ?_
        rotate_left
        ·
         intro w;go_simp
         first | done | with_reducible rfl
        try simp only [Act.put,y1,y2,y3,y4,y5,y6]
        refine wpAny_take (i:=2) (v:=?_) rfl (by kernel_rfl) (by kernel_rfl) (by kernel_rfl) (fun _ _ _ h => h) (Or.inl ⟨by rfl,?_⟩) ?_
        rotate_left
        ·
         intro w;go_simp
         first | done | with_reducible rfl
        try simp only [Act.put,y1,y2,y3,y4,y5,y6]
        refine wpAny_ready (rs:=[1,3]) (by kernel_rfl) (by simp) ?_
        refine AllReady.cons rfl (fun K hK => ?_) ?_
        have k4:=HN.out.c4
        go_simp
        refine hK _ _ ?_
        clear hK K
        try simp only [Act.put,y1,y2,y3,y4,y5,y6]
        have mm1 : True:=trivial
        rotate_left
        refine AllReady.cons rfl (fun K hK => ?_) AllReady.nil
        go_simp
        have HLT:=hid HO.out.ob
        have hzp:=hz
        have hnp : w2.heap.size < w7.drew.heap.size:=HN.out.lt
        refine ok3 (S':=fun b => w7.drew.heap.size <= b) (C2.out _ HP.out) HC.out HZ.out hlt (fun b hb => hb) ?_
        clear HP HC HZ hz hgl
        intro Av cv w8 NAv HP HC HZ hz hgl hc
        replace HN:=hid (HN.out.ch hc (by omega))
        replace HO:=hid (HO.out.ch hc (by simp;omega))
        clear hc
        unfold ndV
        refine hK _ _ ?_
        clear hK K
        try simp only [Act.put,y1,y2,y3,y4,y5,y6]
        have mm2 : True:=trivial
        rotate_left
        all_goals first
         | fail_if_success clear mm1
         |
          clear mm1
          refine wpAny_ready (rs:=[3]) (by kernel_rfl) (by simp) ?_
          refine AllReady.cons rfl (fun K hK => ?_) AllReady.nil
          go_simp
          have HLT:=hid HO.out.ob
          have hzp:=hz
          have hnp : w2.heap.size < w7.drew.heap.size:=HN.out.lt
          refine ok3 (S':=fun b => w7.drew.heap.size <= b) (C2.out _ HP.out) HC.out HZ.out hlt (fun b hb => hb) ?_
          clear HP HC HZ hz hgl
          intro Av cv w8 NAv HP HC HZ hz hgl hc
          replace HN:=hid (HN.out.ch hc (by omega))
          replace HO:=hid (HO.out.ch hc (by simp;omega))
          clear hc
          unfold ndV
          refine hK _ _ ?_
          clear hK K
          try simp only [Act.put,y1,y2,y3,y4,y5,y6]
          have mm3 : True:=trivial
          rotate_left
        all_goals first
         | fail_if_success clear mm2
         |
          clear mm2
          refine wpAny_ready (rs:=[1,4]) (by kernel_rfl) (by simp) ?_
          refine AllReady.cons rfl (fun K hK => ?_) ?_
          have k4:=HN.out.c4
          go_simp
          refine hK _ _ ?_
          clear hK K
          try simp only [Act.put,y1,y2,y3,y4,y5,y6]
          have mm3 : True:=trivial
          rotate_left
          refine AllReady.cons rfl (fun K hK => ?_) AllReady.nil
          go_simp
          refine hK _ _ ?_
          clear hK K
          try simp only [Act.put,y1,y2,y3,y4,y5,y6]
          have HPr:=HP
          have HCr:=HC
          have HZr:=HZ
          have HNr:=HN
          have HOr:=HO
          have NAr:=NAv
          have hzr:=hz
          have hnr : w2.heap.size < w8.heap.size:=HN.out.lt
          have hbx : Below w8.heap.size w8 (w8.alloc (.cells #[.int .i64 e2.op,.string ⟨e2.nm.toArray⟩,.int .i64 e2.n,.string ⟨e2.t.toArray⟩,.slice Av e2.l.length cv] 25)):=bl _
          replace HN:=hid (HN.out.below hbx)
          replace NAv:=hid (NAv.out.below hbx)
          replace HO:=hid (HO.out.below hbx)
          have hx:=gw3 HP.out HC.out HZ.out hbx
          clear HP HC HZ hz hgl hbx
          obtain ⟨HP,HC,HZ,hz,hgl⟩:=hx
          have mm4 : True:=trivial
          rotate_left
        all_goals first
         | fail_if_success clear mm3
         |
          clear mm3
          refine wpAny_ready (rs:=[4]) (by kernel_rfl) (by simp) ?_
          refine AllReady.cons rfl (fun K hK => ?_) AllReady.nil
          go_simp
          refine hK _ _ ?_
          clear hK K
          try simp only [Act.put,y1,y2,y3,y4,y5,y6]
          have HPr:=HP
          have HCr:=HC
          have HZr:=HZ
          have HNr:=HN
          have HOr:=HO
          have NAr:=NAv
          have hzr:=hz
          have hnr : w2.heap.size < w8.heap.size:=HN.out.lt
          have hbx : Below w8.heap.size w8 (w8.alloc (.cells #[.int .i64 e2.op,.string ⟨e2.nm.toArray⟩,.int .i64 e2.n,.string ⟨e2.t.toArray⟩,.slice Av e2.l.length cv] 25)):=bl _
          replace HN:=hid (HN.out.below hbx)
          replace NAv:=hid (NAv.out.below hbx)
          replace HO:=hid (HO.out.below hbx)
          have hx:=gw3 HP.out HC.out HZ.out hbx
          clear HP HC HZ hz hgl hbx
          obtain ⟨HP,HC,HZ,hz,hgl⟩:=hx
          have mm5 : True:=trivial
          rotate_left
        all_goals first
         | fail_if_success clear mm4
         |
          clear mm4
          refine wpAny_ready (rs:=[1]) (by kernel_rfl) (by simp) ?_
          refine AllReady.cons rfl (fun K hK => ?_) AllReady.nil
          have k4:=HN.out.c4
          go_simp
          refine hK _ _ ?_
          clear hK K
          try simp only [Act.put,y1,y2,y3,y4,y5,y6]
          have mm5 : True:=trivial
          rotate_left
        all_goals first
         | fail_if_success clear mm5
         |
          clear mm5
          refine wpAny_ready (rs:=[5]) (by kernel_rfl) (by simp) ?_
          refine AllReady.cons rfl (fun K hK => ?_) AllReady.nil
          refine step_appS2 (1) (by rfl) _ _ (by rfl) (.slice none 0 0) [] e2 #[.int .i64 e2.op,.string ⟨e2.nm.toArray⟩,.int .i64 e2.n,.string ⟨e2.t.toArray⟩,.slice Av e2.l.length cv] (by rfl) HOr.out NAr.out (fun b hb hlt => ⟨⟨by have hb : w7.drew.heap.size <= b:=hb;omega,by have hb : w7.drew.heap.size <= b:=hb;omega⟩,fun e => by have:=(HLT.out b e).2;have hb : w7.drew.heap.size <= b:=hb;omega⟩) ⟨by omega,by omega⟩ (by rfl) (by simp) (by rfl) ?_
          intro A6 c6 w6 ho6 hg6
          replace HP:=hid (HPr.out.gr hg6 (fun j hj => by have:=(HLT.out j hj).1.1;omega))
          replace HC:=hid (HCr.out.gr hg6 (fun j hj => by have:=(HLT.out j hj).1.1;omega))
          replace HZ:=hid (HZr.out.gr hg6 (fun e => by have:=(HLT.out _ e).1.1;omega))
          replace HN:=hid (HNr.out.gr hg6 (fun e => (HLT.out _ e).1.2 rfl))
          replace HO:=hid ho6
          clear ho6 hg6 HPr HCr HZr HNr HOr NAr NAv HLT
          replace hz:=HZ.out.lt
          replace hgl:=HP.out.lt
          refine hK _ _ ?_
          clear hK K
          try simp only [Act.put,y1,y2,y3,y4,y5,y6]
          refine wpAny_take (i:=6) (v:=?_) rfl (by kernel_rfl) (by kernel_rfl) (by kernel_rfl) (fun _ _ _ h => h) (Or.inl ⟨by rfl,?_⟩) ?_
          rotate_left
          ·
           intro w;go_simp
           first | done | with_reducible rfl
          try simp only [Act.put,y1,y2,y3,y4,y5,y6]
          have mm6 : True:=trivial
          rotate_left
        all_goals first
         | fail_if_success clear mm6
         |
          clear mm6
          refine wpAny_ready (rs:=[7]) (by kernel_rfl) (by simp) ?_
          refine AllReady.cons rfl (fun K hK => ?_) AllReady.nil
          have k4:=HN.out.c4
          have f4:=HN.out.free 4
          go_simp
          refine hK _ _ ?_
          clear hK K
          try simp only [Act.put,y1,y2,y3,y4,y5,y6]
          have GN:=hid (HN.out.st1 (A':=A6) (m':=1) (c':=c6))
          have GC:=hid (Ch.set w6 w2.heap.size 4 (.slice A6 (1) c6))
          replace HP:=hid (HP.out.chk GC.out (by omega))
          replace HZ:=hid (HZ.out.ch GC.out (by omega))
          replace HO:=hid (HO.out.ch GC.out (by simp))
          replace HC:=hid (HC.out.new GC.out (by omega))
          replace HN:=GN
          clear GC k4 f4
          generalize (w6.setCell ⟨w2.heap.size,4,none⟩ (.slice A6 (1) c6)) = w9 at *
          replace hz:=HZ.out.lt
          replace hgl:=HP.out.lt
          refine wpAny_done (by kernel_rfl) ?_ _
          rotate_left
        all_goals
         have k0:=HN.out.c0
         have k1:=HN.out.c1
         have k2:=HN.out.c2
         have k3:=HN.out.c3
         have k4:=HN.out.c4
         have z0:=HZ.out.c0
         have f0:=HZ.out.free 0
         have z1:=HZ.out.c1
         have f1:=HZ.out.free 1
         have z2:=HZ.out.c2
         have f2:=HZ.out.free 2
         have z3:=HZ.out.c3
         have f3:=HZ.out.free 3
         have z4:=HZ.out.c4
         have f4:=HZ.out.free 4
         have NA9:=hid (na_nd (op:=op) (s:=t.t) (n:=0) (t:=u2.t) (l:=[e2]) ⟨ho0,ho1⟩ (by omega) htt htu (by simp) (HO.out.kr.more (S':=fun b => w.heap.size < b) (fun b hb _ => hb.1)))
         go_wp2_with fail
         exact bodyPost_ret (v:=ndV op t.t 0 u2.t A6 1 c6) (by simp [results,Tryz.results88,go_sem,ndV,z0,z1,z2,z3,z4,f0,f1,f2,f3,f4]) rfl (fin_st HP.out HC.out hlt NA9.out)
      ·
       have hbo : (op == 65) = false:=by simpa using h7
       clear h5 h7 hE4
       go_wp2_with fail
       obtain ⟨m2,hm2,hF2⟩:=Sy.inv_cl hE5
       rcases hF2 with ⟨q2,hF2,rfl⟩ | ⟨e2,q2,hF2,hE9⟩
       all_goals have C2:=hid (fun W (hW : Pt W g L (u4 :: z4)) => HH.out.block_ m2 (by omega) _ _ hF2 g L W hW)
       all_goals clear hF2 hE5 hm2 HH
       ·
        refine wp_region_any (by kernel_rfl) ?_
        change wpAny _ _ _ _ _ _ _ (World.drew _)
        have hbx : Below w6.heap.size w6 w6.drew:=(Below.refl _ _).drew
        replace HN:=hid (HN.out.below hbx)
        replace HO:=hid (HO.out.below hbx)
        have hx:=gw3 HP.out HC.out HZ.out hbx
        clear HP HC HZ hz hgl hbx
        obtain ⟨HP,HC,HZ,hz,hgl⟩:=hx
        refine wpAny_take (i:=0) (v:=?_) rfl (by kernel_rfl) (by kernel_rfl) (by kernel_rfl) (fun _ _ _ h => h) (Or.inl ⟨by rfl,?_⟩) ?_
        rotate_left
        ·
         intro w;go_simp
         first | done | with_reducible rfl
        try simp only [Act.put,y1,y2,y3,y4,y5,y6]
        refine wpAny_take (i:=2) (v:=?_) rfl (by kernel_rfl) (by kernel_rfl) (by kernel_rfl) (fun _ _ _ h => h) (Or.inl ⟨by rfl,?_⟩) ?_
        rotate_left
        ·
         intro w;go_simp
         first | done | with_reducible rfl
        try simp only [Act.put,y1,y2,y3,y4,y5,y6]
        refine wpAny_ready (rs:=[1,3]) (by kernel_rfl) (by simp) ?_
        refine AllReady.cons rfl (fun K hK => ?_) ?_
        have k4:=HN.out.c4
        go_simp
        refine hK _ _ ?_
        clear hK K
        try simp only [Act.put,y1,y2,y3,y4,y5,y6]
        have mm1 : True:=trivial
        rotate_left
        refine AllReady.cons rfl (fun K hK => ?_) AllReady.nil
        go_simp
        refine (C2.out _ HP.out).mono ?_
        intro e wx hp
        obtain ⟨rfl,hcx⟩:=hp
        exact ⟨rfl,rfl,HC.out.trans hcx⟩
        all_goals first
         | fail_if_success clear mm1
         |
          clear mm1
          refine wpAny_ready (rs:=[3]) (by kernel_rfl) (by simp) ?_
          refine AllReady.cons rfl (fun K hK => ?_) AllReady.nil
          go_simp
          refine (C2.out _ HP.out).mono ?_
          intro e wx hp
          obtain ⟨rfl,hcx⟩:=hp
          exact ⟨rfl,rfl,HC.out.trans hcx⟩
       ·
        obtain rfl:=Sy.inv_ret hE9
        clear hE9
        refine wp_region_any (by kernel_rfl) ?_
        change wpAny _ _ _ _ _ _ _ (World.drew _)
        have hbx : Below w6.heap.size w6 w6.drew:=(Below.refl _ _).drew
        replace HN:=hid (HN.out.below hbx)
        replace HO:=hid (HO.out.below hbx)
        have hx:=gw3 HP.out HC.out HZ.out hbx
        clear HP HC HZ hz hgl hbx
        obtain ⟨HP,HC,HZ,hz,hgl⟩:=hx
        refine wpAny_take (i:=0) (v:=?_) rfl (by kernel_rfl) (by kernel_rfl) (by kernel_rfl) (fun _ _ _ h => h) (Or.inl ⟨by rfl,?_⟩) ?_
        rotate_left
        ·
         intro w;go_simp
         first | done | with_reducible rfl
        try simp only [Act.put,y1,y2,y3,y4,y5,y6]
        refine wpAny_take (i:=2) (v:=?_) rfl (by kernel_rfl) (by kernel_rfl) (by kernel_rfl) (fun _ _ _ h => h) (Or.inl ⟨by rfl,?_⟩) ?_
        rotate_left
        ·
         intro w;go_simp
         first | done | with_reducible rfl
        try simp only [Act.put,y1,y2,y3,y4,y5,y6]
        refine wpAny_ready (rs:=[1,3]) (by kernel_rfl) (by simp) ?_
        refine AllReady.cons rfl (fun K hK => ?_) ?_
        have k4:=HN.out.c4
        go_simp
        refine hK _ _ ?_
        clear hK K
        try simp only [Act.put,y1,y2,y3,y4,y5,y6]
        have mm1 : True:=trivial
        rotate_left
        refine AllReady.cons rfl (fun K hK => ?_) AllReady.nil
        go_simp
        have HLT:=hid HO.out.ob
        have hzp:=hz
        have hnp : w2.heap.size < w6.drew.heap.size:=HN.out.lt
        refine ok3 (S':=fun b => w6.drew.heap.size <= b) (C2.out _ HP.out) HC.out HZ.out hlt (fun b hb => hb) ?_
        clear HP HC HZ hz hgl
        intro Av cv w7 NAv HP HC HZ hz hgl hc
        replace HN:=hid (HN.out.ch hc (by omega))
        replace HO:=hid (HO.out.ch hc (by simp;omega))
        clear hc
        unfold ndV
        refine hK _ _ ?_
        clear hK K
        try simp only [Act.put,y1,y2,y3,y4,y5,y6]
        have mm2 : True:=trivial
        rotate_left
        all_goals first
         | fail_if_success clear mm1
         |
          clear mm1
          refine wpAny_ready (rs:=[3]) (by kernel_rfl) (by simp) ?_
          refine AllReady.cons rfl (fun K hK => ?_) AllReady.nil
          go_simp
          have HLT:=hid HO.out.ob
          have hzp:=hz
          have hnp : w2.heap.size < w6.drew.heap.size:=HN.out.lt
          refine ok3 (S':=fun b => w6.drew.heap.size <= b) (C2.out _ HP.out) HC.out HZ.out hlt (fun b hb => hb) ?_
          clear HP HC HZ hz hgl
          intro Av cv w7 NAv HP HC HZ hz hgl hc
          replace HN:=hid (HN.out.ch hc (by omega))
          replace HO:=hid (HO.out.ch hc (by simp;omega))
          clear hc
          unfold ndV
          refine hK _ _ ?_
          clear hK K
          try simp only [Act.put,y1,y2,y3,y4,y5,y6]
          have mm3 : True:=trivial
          rotate_left
        all_goals first
         | fail_if_success clear mm2
         |
          clear mm2
          refine wpAny_ready (rs:=[1,4]) (by kernel_rfl) (by simp) ?_
          refine AllReady.cons rfl (fun K hK => ?_) ?_
          have k4:=HN.out.c4
          go_simp
          refine hK _ _ ?_
          clear hK K
          try simp only [Act.put,y1,y2,y3,y4,y5,y6]
          have mm3 : True:=trivial
          rotate_left
          refine AllReady.cons rfl (fun K hK => ?_) AllReady.nil
          go_simp
          refine hK _ _ ?_
          clear hK K
          try simp only [Act.put,y1,y2,y3,y4,y5,y6]
          have HPr:=HP
          have HCr:=HC
          have HZr:=HZ
          have HNr:=HN
          have HOr:=HO
          have NAr:=NAv
          have hzr:=hz
          have hnr : w2.heap.size < w7.heap.size:=HN.out.lt
          have hbx : Below w7.heap.size w7 (w7.alloc (.cells #[.int .i64 e2.op,.string ⟨e2.nm.toArray⟩,.int .i64 e2.n,.string ⟨e2.t.toArray⟩,.slice Av e2.l.length cv] 25)):=bl _
          replace HN:=hid (HN.out.below hbx)
          replace NAv:=hid (NAv.out.below hbx)
          replace HO:=hid (HO.out.below hbx)
          have hx:=gw3 HP.out HC.out HZ.out hbx
          clear HP HC HZ hz hgl hbx
          obtain ⟨HP,HC,HZ,hz,hgl⟩:=hx
          have mm4 : True:=trivial
          rotate_left
        all_goals first
         | fail_if_success clear mm3
         |
          clear mm3
          refine wpAny_ready (rs:=[4]) (by kernel_rfl) (by simp) ?_
          refine AllReady.cons rfl (fun K hK => ?_) AllReady.nil
          go_simp
          refine hK _ _ ?_
          clear hK K
          try simp only [Act.put,y1,y2,y3,y4,y5,y6]
          have HPr:=HP
          have HCr:=HC
          have HZr:=HZ
          have HNr:=HN
          have HOr:=HO
          have NAr:=NAv
          have hzr:=hz
          have hnr : w2.heap.size < w7.heap.size:=HN.out.lt
          have hbx : Below w7.heap.size w7 (w7.alloc (.cells #[.int .i64 e2.op,.string ⟨e2.nm.toArray⟩,.int .i64 e2.n,.string ⟨e2.t.toArray⟩,.slice Av e2.l.length cv] 25)):=bl _
          replace HN:=hid (HN.out.below hbx)
          replace NAv:=hid (NAv.out.below hbx)
          replace HO:=hid (HO.out.below hbx)
          have hx:=gw3 HP.out HC.out HZ.out hbx
          clear HP HC HZ hz hgl hbx
          obtain ⟨HP,HC,HZ,hz,hgl⟩:=hx
          have mm5 : True:=trivial
          rotate_left
        all_goals first
         | fail_if_success clear mm4
         |
          clear mm4
          refine wpAny_ready (rs:=[1]) (by kernel_rfl) (by simp) ?_
          refine AllReady.cons rfl (fun K hK => ?_) AllReady.nil
          have k4:=HN.out.c4
          go_simp
          refine hK _ _ ?_
          clear hK K
          try simp only [Act.put,y1,y2,y3,y4,y5,y6]
          have mm5 : True:=trivial
          rotate_left
        all_goals first
         | fail_if_success clear mm5
         |
          clear mm5
          refine wpAny_ready (rs:=[5]) (by kernel_rfl) (by simp) ?_
          refine AllReady.cons rfl (fun K hK => ?_) AllReady.nil
          refine step_appS2 (1) (by rfl) _ _ (by rfl) (.slice none 0 0) [] e2 #[.int .i64 e2.op,.string ⟨e2.nm.toArray⟩,.int .i64 e2.n,.string ⟨e2.t.toArray⟩,.slice Av e2.l.length cv] (by rfl) HOr.out NAr.out (fun b hb hlt => ⟨⟨by have hb : w6.drew.heap.size <= b:=hb;omega,by have hb : w6.drew.heap.size <= b:=hb;omega⟩,fun e => by have:=(HLT.out b e).2;have hb : w6.drew.heap.size <= b:=hb;omega⟩) ⟨by omega,by omega⟩ (by rfl) (by simp) (by rfl) ?_
          intro A6 c6 w6 ho6 hg6
          replace HP:=hid (HPr.out.gr hg6 (fun j hj => by have:=(HLT.out j hj).1.1;omega))
          replace HC:=hid (HCr.out.gr hg6 (fun j hj => by have:=(HLT.out j hj).1.1;omega))
          replace HZ:=hid (HZr.out.gr hg6 (fun e => by have:=(HLT.out _ e).1.1;omega))
          replace HN:=hid (HNr.out.gr hg6 (fun e => (HLT.out _ e).1.2 rfl))
          replace HO:=hid ho6
          clear ho6 hg6 HPr HCr HZr HNr HOr NAr NAv HLT
          replace hz:=HZ.out.lt
          replace hgl:=HP.out.lt
          refine hK _ _ ?_
          clear hK K
          try simp only [Act.put,y1,y2,y3,y4,y5,y6]
          refine wpAny_take (i:=6) (v:=?_) rfl (by kernel_rfl) (by kernel_rfl) (by kernel_rfl) (fun _ _ _ h => h) (Or.inl ⟨by rfl,?_⟩) ?_
          rotate_left
          ·
           intro w;go_simp
           first | done | with_reducible rfl
          try simp only [Act.put,y1,y2,y3,y4,y5,y6]
          have mm6 : True:=trivial
          rotate_left
        all_goals first
         | fail_if_success clear mm6
         |
          clear mm6
          refine wpAny_ready (rs:=[7]) (by kernel_rfl) (by simp) ?_
          refine AllReady.cons rfl (fun K hK => ?_) AllReady.nil
          have k4:=HN.out.c4
          have f4:=HN.out.free 4
          go_simp
          refine hK _ _ ?_
          clear hK K
          try simp only [Act.put,y1,y2,y3,y4,y5,y6]
          have GN:=hid (HN.out.st1 (A':=A6) (m':=1) (c':=c6))
          have GC:=hid (Ch.set w6 w2.heap.size 4 (.slice A6 (1) c6))
          replace HP:=hid (HP.out.chk GC.out (by omega))
          replace HZ:=hid (HZ.out.ch GC.out (by omega))
          replace HO:=hid (HO.out.ch GC.out (by simp))
          replace HC:=hid (HC.out.new GC.out (by omega))
          replace HN:=GN
          clear GC k4 f4
          generalize (w6.setCell ⟨w2.heap.size,4,none⟩ (.slice A6 (1) c6)) = w8 at *
          replace hz:=HZ.out.lt
          replace hgl:=HP.out.lt
          refine wpAny_done (by kernel_rfl) ?_ _
          rotate_left
        all_goals
         have k0:=HN.out.c0
         have k1:=HN.out.c1
         have k2:=HN.out.c2
         have k3:=HN.out.c3
         have k4:=HN.out.c4
         have z0:=HZ.out.c0
         have f0:=HZ.out.free 0
         have z1:=HZ.out.c1
         have f1:=HZ.out.free 1
         have z2:=HZ.out.c2
         have f2:=HZ.out.free 2
         have z3:=HZ.out.c3
         have f3:=HZ.out.free 3
         have z4:=HZ.out.c4
         have f4:=HZ.out.free 4
         have NA9:=hid (na_nd (op:=op) (s:=t.t) (n:=0) (t:=u2.t) (l:=[e2]) ⟨ho0,ho1⟩ (by omega) htt htu (by simp) (HO.out.kr.more (S':=fun b => w.heap.size < b) (fun b hb _ => hb.1)))
         go_wp2_with fail
         exact bodyPost_ret (v:=ndV op t.t 0 u2.t A6 1 c6) (by simp [results,Tryz.results88,go_sem,ndV,z0,z1,z2,z3,z4,f0,f1,f2,f3,f4]) rfl (fin_st HP.out HC.out hlt NA9.out)
    ·
     refine (take_no g L u3 z3 ⟨#[41]⟩ _ HP.out h4).mono ?_
     intro e wz hp
     obtain ⟨rfl,hc⟩:=hp
     go_wp2_with fail
     exact ⟨rfl,rfl,HC.out.trans hc⟩
   ·
    refine (name_no g L u2 z2 _ HP.out h3).mono ?_
    intro e wz hp
    obtain ⟨rfl,hc⟩:=hp
    go_wp2_with fail
    exact ⟨rfl,rfl,HC.out.trans hc⟩
  ·
   refine (take_no g L u z ⟨#[40]⟩ _ HP.out h2).mono ?_
   intro e wz hp
   obtain ⟨rfl,hc⟩:=hp
   go_wp2_with fail
   exact ⟨rfl,rfl,HC.out.trans hc⟩
 ·
  clear hE H
  have HP : Hid (Pt (w.alloc zNode) g L (t :: s)):=h.below (bl _)
  have HC : Hid (Ch g w (w.alloc zNode)):=Ch.of_below (bl _)
  have HZ : Hid (Nb (w.alloc zNode) w.heap.size 0 [] 0 [] none 0 0):=Nb.zero
  have hz:=HZ.out.lt
  have hgl:=HP.out.lt
  clear h
  go_enter Tryz.func88,Tryz.ntmps88
  go_wp2_with fail
  refine (name_no g L t s _ HP.out h1).mono ?_
  intro e wz hp
  obtain ⟨rfl,hc⟩:=hp
  go_wp2_with fail
  exact ⟨rfl,rfl,HC.out.trans hc⟩
end Go.Proofs.YtgeppafcemeidaaGreatDoor
