/-
  Texts of a proof, joined: functions of the program and of its reference by contract, and what holds of trees, tokens and bytes.
-/
import Derived.Test.YtgeppafcemeidaaGreatDoorJPA1
set_option linter.unusedVariables false
set_option linter.unusedSimpArgs false
set_option maxRecDepth 100000
set_option maxHeartbeats 8000000
namespace Go.Proofs.YtgeppafcemeidaaGreatDoor
open Go.RowKit
open Sy (N NT R Ev Run Pg fx hd body opnd inf RunN EvN nd nmd)
open Tk (T)
open Sy (Fin TB)
attribute [local go_sem ↓] Tryz.field0 Tryz.field1
def PoRel (n : Nat) (w : World) (g B0 B1 : Nat) (L : List T) (r : R) (wr : World) : Prop:=∃ m a q A c,m < n /\ EvN m (.postL a) q r /\ Nb wr B1 a.op a.nm a.n a.t A a.l.length c /\ NA wr (fun b => B0 < b /\ b ≠ B1) (ndV a.op a.nm a.n a.t A a.l.length c) a /\ Pt wr g L q /\ Ch g w wr /\ Nb wr B0 0 [] 0 [] none 0 0
theorem por {n m c B0 B1 g : Nat} {w wr : World} {L q : List T} {r : R} {op k : Int} {s t : List UInt8} {l : List N} {A : Option Addr} (h1 : m < n) (h2 : EvN m (.postL (.mk op s k t l)) q r) (h3 : Nb wr B1 op s k t A l.length c) (h4 : NA wr (fun b => B0 < b /\ b ≠ B1) (ndV op s k t A l.length c) (.mk op s k t l)) (h5 : Pt wr g L q) (h6 : Ch g w wr) (h7 : Nb wr B0 0 [] 0 [] none 0 0) : PoRel n w g B0 B1 L r wr :=
 ⟨m,_,q,A,c,h1,h2,h3,h4,h5,h6,h7⟩
theorem post_c (n : Nat) (H : AllX n) (l : List T) (r : R) (hE : EvN n .post l r) : CF 242 l r:=by
 intro g L w h
 have hlt:=h.lt
 obtain ⟨t,s,rfl⟩:=h.fin.ex
 obtain ⟨m1,hm1,hE⟩:=Sy.inv_cl (show RunN n (Sy.cl .prim (t :: s) fun a r => .call (.postL a) r .ret) r from hE)
 have HX:=hid H.expr
 rcases hE with ⟨q,hE1,rfl⟩ | ⟨a,q,hE1,hE2⟩
 all_goals have C:=hid (fun W (hW : Pt W g L (t :: s)) => H.prim m1 (by omega) _ _ hE1 g L W hW)
 all_goals clear hE1 H
 ·
  clear hm1
  have HP : Hid (Pt (w.alloc zNode) g L (t :: s)):=h.below (bl _)
  have HC : Hid (Ch g w (w.alloc zNode)):=Ch.of_below (bl _)
  have HZ : Hid (Nb (w.alloc zNode) w.heap.size 0 [] 0 [] none 0 0):=Nb.zero
  have hz:=HZ.out.lt
  have hgl:=HP.out.lt
  clear h
  go_enter Tryz.func242,Tryz.ntmps242
  go_wp2_with fail
  refine (C.out _ HP.out).mono ?_
  intro e wz hp
  obtain ⟨rfl,hc⟩:=hp
  go_wp2_with fail
  exact ⟨rfl,rfl,HC.out.trans hc⟩
 ·
  obtain ⟨m2,hm2,hE2⟩:=Sy.inv_tail hE2
  have HE2:=hid hE2
  have hmn : m2 < n:=by omega
  clear hm1 hE2 hm2
  have HP : Hid (Pt (w.alloc zNode) g L (t :: s)):=h.below (bl _)
  have HC : Hid (Ch g w (w.alloc zNode)):=Ch.of_below (bl _)
  have HZ : Hid (Nb (w.alloc zNode) w.heap.size 0 [] 0 [] none 0 0):=Nb.zero
  have hz:=HZ.out.lt
  have hgl:=HP.out.lt
  clear h
  go_enter Tryz.func242,Tryz.ntmps242
  go_wp2_with fail
  refine ok3 (S':=fun b => w.heap.size < b) (C.out _ HP.out) HC.out HZ.out hlt (fun b hb => Nat.lt_of_lt_of_le hz hb) ?_
  clear HP HC HZ hz hgl
  intro Ax cx w1 NAx HP HC HZ hz hgl hc
  clear hc
  unfold ndV
  have hna1 : Hid (NA w1 (fun b => w.heap.size < b /\ b ≠ w1.heap.size) (ndV a.op a.nm a.n a.t Ax a.l.length cx) a):=NAx.out.more (fun b hb hlt => ⟨hb,by omega⟩)
  have hB01 : w.heap.size < w1.heap.size:=hz
  have hgB1 : g < w1.heap.size:=hgl
  have hgHN : g < w1.heap.size:=hgl
  have hzHN : w.heap.size < w1.heap.size:=hz
  have hbx : Below w1.heap.size w1 (w1.alloc (.cells #[.int .i64 a.op,.string ⟨a.nm.toArray⟩,.int .i64 a.n,.string ⟨a.t.toArray⟩,.slice Ax a.l.length cx] 25)):=bl _
  have HN : Hid (Nb (w1.alloc (.cells #[.int .i64 a.op,.string ⟨a.nm.toArray⟩,.int .i64 a.n,.string ⟨a.t.toArray⟩,.slice Ax a.l.length cx] 25)) w1.heap.size a.op a.nm a.n a.t Ax a.l.length cx):=Nb.new
  replace NAx:=hid (NAx.out.below hbx)
  have hx:=gw3 HP.out HC.out HZ.out hbx
  clear HP HC HZ hz hgl hbx
  obtain ⟨HP,HC,HZ,hz,hgl⟩:=hx
  go_wp2_with fail
  have NA3 : Hid (NA (w1.alloc (.cells #[.int .i64 a.op,.string ⟨a.nm.toArray⟩,.int .i64 a.n,.string ⟨a.t.toArray⟩,.slice Ax a.l.length cx] 25)) (fun b => w.heap.size < b /\ b ≠ w1.heap.size) (ndV a.op a.nm a.n a.t Ax a.l.length cx) a):=hna1.out.below (bl _)
  go_loopw [7] (fun _ wr => PoRel n w g w.heap.size w1.heap.size L r wr) (fun _ wr => L.length - posP wr g)
  case atStart =>
   exact ⟨m2,a,q,Ax,cx,hmn,HE2.out,HN.out,NA3.out,HP.out,HC.out,HZ.out⟩
  case round =>
   clear HP HC HZ NAx HN NA3 hna1 HE2 hgl hz hmn hgHN hzHN
   obtain ⟨m3,a3,q3,A3,c3,hm3,hE3,hn3,hna3,hp3,hc3,hz3⟩:=hrel
   obtain ⟨t3,r3,rfl⟩:=hp3.fin.ex
   have hfin:=hp3.fin
   have htb3:=hfin.tb.2.2.1
   have hle3:=hp3.len
   have HMR:=hid hp3.pos
   have HP:=hid hp3
   have HC:=hid hc3
   have HZ:=hid hz3
   have HN:=hid hn3
   have NA3:=hid hna3
   have hgl:=hp3.lt
   have hz:=hz3.lt
   have hn1:=hn3.lt
   clear hn3 hna3 hp3 hc3 hz3
   rcases Sy.inv_if (show RunN m3 (if fx (t3 :: r3) = [46] then Sy.nm r3 fun s r => .call (.postL (nmd 29 s [a3])) r .ret else if fx (t3 :: r3) = [91] then Sy.cl (.chain 1) r3 fun b r => Sy.tk [93] r fun r => .call (.postL (nd 28 [a3,b])) r .ret else .ret (.ok a3 (t3 :: r3))) r from hE3) with ⟨hf,hE4⟩ | ⟨hf,hE4⟩
   ·
    have hf2:=hfin.tail (Sy.fx_k hf (by decide))
    obtain ⟨u,z,rfl⟩:=hf2.ex
    have htu:=hf2.tb.2.2.1
    clear hfin hf2
    rcases Sy.inv_nm hE4 with ⟨h5,hE5⟩ | ⟨h5,rfl⟩
    ·
     obtain ⟨m5,hm5,hE5⟩:=Sy.inv_tail hE5
     have HE5 : Hid (EvN m5 (.postL (nmd 29 u.t [a3])) z r):=hE5
     have hmn5 : m5 < n:=by omega
     clear hE5 hm5
     clear hE3 hE4 hm3
     go_wp2_with fail
     refine mv3 (skip_yes g L t3 (u :: z) ⟨#[46]⟩ _ HP.out hf (by decide)) HC.out HZ.out hlt ?_
     clear HP HC HZ hz hgl
     intro w5 HP HC HZ hz hgl hc
     replace HN:=hid (HN.out.ch hc (by omega))
     replace NA3:=hid (NA3.out.ch hc (by simp;omega))
     replace hn1:=HN.out.lt
     clear hc
     go_wp2_with fail
     refine wp_region_any (by kernel_rfl) ?_
     change wpAny _ _ _ _ _ _ _ (World.drew _)
     have hbx : Below w5.heap.size w5 w5.drew:=(Below.refl _ _).drew
     replace HN:=hid (HN.out.below hbx)
     replace NA3:=hid (NA3.out.below hbx)
     have hx:=gw3 HP.out HC.out HZ.out hbx
     clear HP HC HZ hz hgl hbx
     obtain ⟨HP,HC,HZ,hz,hgl⟩:=hx
     replace hn1:=HN.out.lt
     refine wpAny_take (i:=0) (v:=?_) rfl (by kernel_rfl) (by kernel_rfl) (by kernel_rfl) (fun _ _ _ h => h) (Or.inl ⟨by rfl,?_⟩) ?_
     rotate_left
     ·
      intro w;go_simp
      first | done | with_reducible rfl
     try simp only [Act.put,y1,y2,y3,y4,y5,y6]
     refine wpAny_ready (rs:=[1,2]) (by kernel_rfl) (by simp) ?_
     refine AllReady.cons rfl (fun K hK => ?_) ?_
     ·
      go_simp
      refine mv3 (name_yes g L u z _ HP.out h5) HC.out HZ.out hlt ?_
      clear HP HC HZ hz hgl
      intro w6 HP HC HZ hz hgl hc
      replace HN:=hid (HN.out.ch hc (by omega))
      replace NA3:=hid (NA3.out.ch hc (by simp;omega))
      replace hn1:=HN.out.lt
      clear hc
      refine hK _ _ ?_
      clear hK K
      try simp only [Act.put,y1,y2,y3,y4,y5,y6]
      refine wpAny_ready (rs:=[2]) (by kernel_rfl) (by simp) ?_
      refine AllReady.cons rfl (fun K hK => ?_) AllReady.nil
      have k0:=HN.out.c0
      have k1:=HN.out.c1
      have k2:=HN.out.c2
      have k3:=HN.out.c3
      have k4:=HN.out.c4
      go_simp
      refine hK _ _ ?_
      clear hK K
      try simp only [Act.put,y1,y2,y3,y4,y5,y6]
      refine wpAny_ready (rs:=[3]) (by kernel_rfl) (by simp) ?_
      refine AllReady.cons rfl (fun K hK => ?_) AllReady.nil
      go_simp
      refine hK _ _ ?_
      clear hK K
      try simp only [Act.put,y1,y2,y3,y4,y5,y6]
      have HK1:=hid (KR.one_ NA3.out (S':=fun b => w.heap.size < b /\ b ≠ w1.heap.size) (fun _ h _ => h) (⟨hz,by omega⟩) 25)
      have hbx : Below w6.heap.size w6 (w6.alloc (.cells #[.int .i64 a3.op,.string ⟨a3.nm.toArray⟩,.int .i64 a3.n,.string ⟨a3.t.toArray⟩,.slice A3 a3.l.length c3] 25)):=bl _
      replace HN:=hid (HN.out.below hbx)
      replace NA3:=hid (NA3.out.below hbx)
      have hx:=gw3 HP.out HC.out HZ.out hbx
      clear HP HC HZ hz hgl hbx
      obtain ⟨HP,HC,HZ,hz,hgl⟩:=hx
      replace hn1:=HN.out.lt
      refine wpAny_ready (rs:=[4]) (by kernel_rfl) (by simp) ?_
      refine AllReady.cons rfl (fun K hK => ?_) AllReady.nil
      go_simp
      refine (named_any 29 u.t _ _ _ _).mono ?_
      rintro e w7 ⟨rfl,hb⟩
      replace HN:=hid (HN.out.below hb)
      replace NA3:=hid (NA3.out.below hb)
      replace HK1:=hid (HK1.out.below hb)
      have hx:=gw3 HP.out HC.out HZ.out hb
      clear HP HC HZ hz hgl hb
      obtain ⟨HP,HC,HZ,hz,hgl⟩:=hx
      replace hn1:=HN.out.lt
      have NAY:=hid (na_nd (op:=29) (s:=u.t) (n:=0) (t:=[]) (l:=[a3]) (by first | assumption | omega | (constructor <;> omega)) (by omega) (by first | assumption | simp | omega) (by first | assumption | simp | omega) (by simp) HK1.out)
      unfold ndV
      refine hK _ _ ?_
      clear hK K
      try simp only [Act.put,y1,y2,y3,y4,y5,y6]
      refine wpAny_ready (rs:=[5]) (by kernel_rfl) (by simp) ?_
      refine AllReady.cons rfl (fun K hK => ?_) AllReady.nil
      have k0:=HN.out.c0
      have k1:=HN.out.c1
      have k2:=HN.out.c2
      have k3:=HN.out.c3
      have k4:=HN.out.c4
      have f0:=HN.out.free 0
      have f1:=HN.out.free 1
      have f2:=HN.out.free 2
      have f3:=HN.out.free 3
      have f4:=HN.out.free 4
      go_simp
      refine hK _ _ ?_
      clear hK K
      try simp only [Act.put,y1,y2,y3,y4,y5,y6]
      refine wpAny_done (by kernel_rfl) ?_ _
      have GN:=hid (HN.out.st5 (op':=29) (s':=u.t) (n':=0) (t':=[]) (A':=(some ⟨w6.heap.size,0,none⟩)) (m':=1) (c':=1))
      have GC:=hid (st5 w7 w1.heap.size (.int .i64 29) (.string ⟨(u.t).toArray⟩) (.int .i64 0) (.string ⟨([]).toArray⟩) (.slice (some ⟨w6.heap.size,0,none⟩) 1 1))
      have GP:=hid (HP.out.chk GC.out (by omega))
      have GZ:=hid (HZ.out.ch GC.out (by omega))
      have GA:=hid (NAY.out.ch GC.out (by simp))
      have GH:=hid (HC.out.new GC.out (by omega))
      generalize (((((w7.setCell ⟨w1.heap.size,0,none⟩ (.int .i64 29)).setCell ⟨w1.heap.size,1,none⟩ (.string ⟨(u.t).toArray⟩)).setCell ⟨w1.heap.size,2,none⟩ (.int .i64 0)).setCell ⟨w1.heap.size,3,none⟩ (.string ⟨([]).toArray⟩)).setCell ⟨w1.heap.size,4,none⟩ (.slice (some ⟨w6.heap.size,0,none⟩) 1 1)) = w8 at *
      replace HP:=GP
      replace HZ:=GZ
      replace HC:=GH
      replace HN:=GN
      clear GC
      replace hz:=HZ.out.lt
      replace hgl:=HP.out.lt
      replace hn1:=HN.out.lt
      go_wp2_with fail
      have hpos:=HP.out.pos
      refine ⟨por hmn5 HE5.out HN.out GA.out HP.out HC.out HZ.out,?_⟩
      rw [hpos,HMR.out]
      simp only [List.length_cons] at *
      omega
     refine AllReady.cons rfl (fun K hK => ?_) AllReady.nil
     have k0:=HN.out.c0
     have k1:=HN.out.c1
     have k2:=HN.out.c2
     have k3:=HN.out.c3
     have k4:=HN.out.c4
     go_simp
     refine hK _ _ ?_
     clear hK K
     try simp only [Act.put,y1,y2,y3,y4,y5,y6]
     refine wpAny_ready (rs:=[1,3]) (by kernel_rfl) (by simp) ?_
     refine AllReady.cons rfl (fun K hK => ?_) ?_
     ·
      go_simp
      refine mv3 (name_yes g L u z _ HP.out h5) HC.out HZ.out hlt ?_
      clear HP HC HZ hz hgl
      intro w6 HP HC HZ hz hgl hc
      replace HN:=hid (HN.out.ch hc (by omega))
      replace NA3:=hid (NA3.out.ch hc (by simp;omega))
      replace hn1:=HN.out.lt
      clear hc
      refine hK _ _ ?_
      clear hK K
      try simp only [Act.put,y1,y2,y3,y4,y5,y6]
      refine wpAny_ready (rs:=[3]) (by kernel_rfl) (by simp) ?_
      refine AllReady.cons rfl (fun K hK => ?_) AllReady.nil
      go_simp
      refine hK _ _ ?_
      clear hK K
      try simp only [Act.put,y1,y2,y3,y4,y5,y6]
      have HK1:=hid (KR.one_ NA3.out (S':=fun b => w.heap.size < b /\ b ≠ w1.heap.size) (fun _ h _ => h) (⟨hz,by omega⟩) 25)
      have hbx : Below w6.heap.size w6 (w6.alloc (.cells #[.int .i64 a3.op,.string ⟨a3.nm.toArray⟩,.int .i64 a3.n,.string ⟨a3.t.toArray⟩,.slice A3 a3.l.length c3] 25)):=bl _
      replace HN:=hid (HN.out.below hbx)
      replace NA3:=hid (NA3.out.below hbx)
      have hx:=gw3 HP.out HC.out HZ.out hbx
      clear HP HC HZ hz hgl hbx
      obtain ⟨HP,HC,HZ,hz,hgl⟩:=hx
      replace hn1:=HN.out.lt
      refine wpAny_ready (rs:=[4]) (by kernel_rfl) (by simp) ?_
      refine AllReady.cons rfl (fun K hK => ?_) AllReady.nil
      go_simp
      refine (named_any 29 u.t _ _ _ _).mono ?_
      rintro e w7 ⟨rfl,hb⟩
      replace HN:=hid (HN.out.below hb)
      replace NA3:=hid (NA3.out.below hb)
      replace HK1:=hid (HK1.out.below hb)
      have hx:=gw3 HP.out HC.out HZ.out hb
      clear HP HC HZ hz hgl hb
      obtain ⟨HP,HC,HZ,hz,hgl⟩:=hx
      replace hn1:=HN.out.lt
      have NAY:=hid (na_nd (op:=29) (s:=u.t) (n:=0) (t:=[]) (l:=[a3]) (by first | assumption | omega | (constructor <;> omega)) (by omega) (by first | assumption | simp | omega) (by first | assumption | simp | omega) (by simp) HK1.out)
      unfold ndV
      refine hK _ _ ?_
      clear hK K
      try simp only [Act.put,y1,y2,y3,y4,y5,y6]
      refine wpAny_ready (rs:=[5]) (by kernel_rfl) (by simp) ?_
      refine AllReady.cons rfl (fun K hK => ?_) AllReady.nil
      have k0:=HN.out.c0
      have k1:=HN.out.c1
      have k2:=HN.out.c2
      have k3:=HN.out.c3
      have k4:=HN.out.c4
      have f0:=HN.out.free 0
      have f1:=HN.out.free 1
      have f2:=HN.out.free 2
      have f3:=HN.out.free 3
      have f4:=HN.out.free 4
      go_simp
      refine hK _ _ ?_
      clear hK K
      try simp only [Act.put,y1,y2,y3,y4,y5,y6]
      refine wpAny_done (by kernel_rfl) ?_ _
      have GN:=hid (HN.out.st5 (op':=29) (s':=u.t) (n':=0) (t':=[]) (A':=(some ⟨w6.heap.size,0,none⟩)) (m':=1) (c':=1))
      have GC:=hid (st5 w7 w1.heap.size (.int .i64 29) (.string ⟨(u.t).toArray⟩) (.int .i64 0) (.string ⟨([]).toArray⟩) (.slice (some ⟨w6.heap.size,0,none⟩) 1 1))
      have GP:=hid (HP.out.chk GC.out (by omega))
      have GZ:=hid (HZ.out.ch GC.out (by omega))
      have GA:=hid (NAY.out.ch GC.out (by simp))
      have GH:=hid (HC.out.new GC.out (by omega))
      generalize (((((w7.setCell ⟨w1.heap.size,0,none⟩ (.int .i64 29)).setCell ⟨w1.heap.size,1,none⟩ (.string ⟨(u.t).toArray⟩)).setCell ⟨w1.heap.size,2,none⟩ (.int .i64 0)).setCell ⟨w1.heap.size,3,none⟩ (.string ⟨([]).toArray⟩)).setCell ⟨w1.heap.size,4,none⟩ (.slice (some ⟨w6.heap.size,0,none⟩) 1 1)) = w8 at *
      replace HP:=GP
      replace HZ:=GZ
      replace HC:=GH
      replace HN:=GN
      clear GC
      replace hz:=HZ.out.lt
      replace hgl:=HP.out.lt
      replace hn1:=HN.out.lt
      go_wp2_with fail
      have hpos:=HP.out.pos
      refine ⟨por hmn5 HE5.out HN.out GA.out HP.out HC.out HZ.out,?_⟩
      rw [hpos,HMR.out]
      simp only [List.length_cons] at *
      omega
     refine AllReady.cons rfl (fun K hK => ?_) AllReady.nil
     go_simp
     refine hK _ _ ?_
     clear hK K
     try simp only [Act.put,y1,y2,y3,y4,y5,y6]
     have HK1:=hid (KR.one_ NA3.out (S':=fun b => w.heap.size < b /\ b ≠ w1.heap.size) (fun _ h _ => h) (⟨hz,by omega⟩) 25)
     have hbx : Below w5.drew.heap.size w5.drew (w5.drew.alloc (.cells #[.int .i64 a3.op,.string ⟨a3.nm.toArray⟩,.int .i64 a3.n,.string ⟨a3.t.toArray⟩,.slice A3 a3.l.length c3] 25)):=bl _
     replace HN:=hid (HN.out.below hbx)
     replace NA3:=hid (NA3.out.below hbx)
     have hx:=gw3 HP.out HC.out HZ.out hbx
     clear HP HC HZ hz hgl hbx
     obtain ⟨HP,HC,HZ,hz,hgl⟩:=hx
     replace hn1:=HN.out.lt
     refine wpAny_ready (rs:=[1]) (by kernel_rfl) (by simp) ?_
     refine AllReady.cons rfl (fun K hK => ?_) AllReady.nil
     go_simp
     refine mv3 (name_yes g L u z _ HP.out h5) HC.out HZ.out hlt ?_
     clear HP HC HZ hz hgl
     intro w6 HP HC HZ hz hgl hc
     replace HN:=hid (HN.out.ch hc (by omega))
     replace NA3:=hid (NA3.out.ch hc (by simp;omega))
     replace HK1:=hid (HK1.out.ch hc (by simp;omega))
     replace hn1:=HN.out.lt
     clear hc
     refine hK _ _ ?_
     clear hK K
     try simp only [Act.put,y1,y2,y3,y4,y5,y6]
     refine wpAny_ready (rs:=[4]) (by kernel_rfl) (by simp) ?_
     refine AllReady.cons rfl (fun K hK => ?_) AllReady.nil
     go_simp
     refine (named_any 29 u.t _ _ _ _).mono ?_
     rintro e w7 ⟨rfl,hb⟩
     replace HN:=hid (HN.out.below hb)
     replace NA3:=hid (NA3.out.below hb)
     replace HK1:=hid (HK1.out.below hb)
     have hx:=gw3 HP.out HC.out HZ.out hb
     clear HP HC HZ hz hgl hb
     obtain ⟨HP,HC,HZ,hz,hgl⟩:=hx
     replace hn1:=HN.out.lt
     have NAY:=hid (na_nd (op:=29) (s:=u.t) (n:=0) (t:=[]) (l:=[a3]) (by first | assumption | omega | (constructor <;> omega)) (by omega) (by first | assumption | simp | omega) (by first | assumption | simp | omega) (by simp) HK1.out)
     unfold ndV
     refine hK _ _ ?_
     clear hK K
     try simp only [Act.put,y1,y2,y3,y4,y5,y6]
     refine wpAny_ready (rs:=[5]) (by kernel_rfl) (by simp) ?_
     refine AllReady.cons rfl (fun K hK => ?_) AllReady.nil
     have k0:=HN.out.c0
     have k1:=HN.out.c1
     have k2:=HN.out.c2
     have k3:=HN.out.c3
     have k4:=HN.out.c4
     have f0:=HN.out.free 0
     have f1:=HN.out.free 1
     have f2:=HN.out.free 2
     have f3:=HN.out.free 3
     have f4:=HN.out.free 4
     go_simp
     refine hK _ _ ?_
     clear hK K
     try simp only [Act.put,y1,y2,y3,y4,y5,y6]
     refine wpAny_done (by kernel_rfl) ?_ _
     have GN:=hid (HN.out.st5 (op':=29) (s':=u.t) (n':=0) (t':=[]) (A':=(some ⟨w5.heap.size,0,none⟩)) (m':=1) (c':=1))
     have GC:=hid (st5 w7 w1.heap.size (.int .i64 29) (.string ⟨(u.t).toArray⟩) (.int .i64 0) (.string ⟨([]).toArray⟩) (.slice (some ⟨w5.heap.size,0,none⟩) 1 1))
     have GP:=hid (HP.out.chk GC.out (by omega))
     have GZ:=hid (HZ.out.ch GC.out (by omega))
     have GA:=hid (NAY.out.ch GC.out (by simp))
     have GH:=hid (HC.out.new GC.out (by omega))
     generalize (((((w7.setCell ⟨w1.heap.size,0,none⟩ (.int .i64 29)).setCell ⟨w1.heap.size,1,none⟩ (.string ⟨(u.t).toArray⟩)).setCell ⟨w1.heap.size,2,none⟩ (.int .i64 0)).setCell ⟨w1.heap.size,3,none⟩ (.string ⟨([]).toArray⟩)).setCell ⟨w1.heap.size,4,none⟩ (.slice (some ⟨w5.heap.size,0,none⟩) 1 1)) = w8 at *
     replace HP:=GP
     replace HZ:=GZ
     replace HC:=GH
     replace HN:=GN
     clear GC
     replace hz:=HZ.out.lt
     replace hgl:=HP.out.lt
     replace hn1:=HN.out.lt
     go_wp2_with fail
     have hpos:=HP.out.pos
     refine ⟨por hmn5 HE5.out HN.out GA.out HP.out HC.out HZ.out,?_⟩
     rw [hpos,HMR.out]
     simp only [List.length_cons] at *
     omega
    ·
     clear hE3 hE4 hm3
     go_wp2_with fail
     refine mv3 (skip_yes g L t3 (u :: z) ⟨#[46]⟩ _ HP.out hf (by decide)) HC.out HZ.out hlt ?_
     clear HP HC HZ hz hgl
     intro w5 HP HC HZ hz hgl hc
     replace HN:=hid (HN.out.ch hc (by omega))
     replace NA3:=hid (NA3.out.ch hc (by simp;omega))
     replace hn1:=HN.out.lt
     clear hc
     go_wp2_with fail
     refine wp_region_any (by kernel_rfl) ?_
     change wpAny _ _ _ _ _ _ _ (World.drew _)
     have hbx : Below w5.heap.size w5 w5.drew:=(Below.refl _ _).drew
     replace HN:=hid (HN.out.below hbx)
     replace NA3:=hid (NA3.out.below hbx)
     have hx:=gw3 HP.out HC.out HZ.out hbx
     clear HP HC HZ hz hgl hbx
     obtain ⟨HP,HC,HZ,hz,hgl⟩:=hx
     replace hn1:=HN.out.lt
     refine wpAny_take (i:=0) (v:=?_) rfl (by kernel_rfl) (by kernel_rfl) (by kernel_rfl) (fun _ _ _ h => h) (Or.inl ⟨by rfl,?_⟩) ?_
     rotate_left
     ·
      intro w;go_simp
      first | done | with_reducible rfl
     try simp only [Act.put,y1,y2,y3,y4,y5,y6]
     refine wpAny_ready (rs:=[1,2]) (by kernel_rfl) (by simp) ?_
     refine AllReady.cons rfl (fun K hK => ?_) ?_
     go_simp
     refine (name_no g L u z _ HP.out h5).mono ?_
     intro e wx hp
     obtain ⟨rfl,hcx⟩:=hp
     exact ⟨rfl,rfl,HC.out.trans hcx⟩
     refine AllReady.cons rfl (fun K hK => ?_) AllReady.nil
     have k0:=HN.out.c0
     have k1:=HN.out.c1
     have k2:=HN.out.c2
     have k3:=HN.out.c3
     have k4:=HN.out.c4
     go_simp
     refine hK _ _ ?_
     clear hK K
     try simp only [Act.put,y1,y2,y3,y4,y5,y6]
     have mm1 : True:=trivial
     rotate_left
     all_goals first
      | fail_if_success clear mm1
      |
       clear mm1
       refine wpAny_ready (rs:=[1,3]) (by kernel_rfl) (by simp) ?_
       refine AllReady.cons rfl (fun K hK => ?_) ?_
       go_simp
       refine (name_no g L u z _ HP.out h5).mono ?_
       intro e wx hp
       obtain ⟨rfl,hcx⟩:=hp
       exact ⟨rfl,rfl,HC.out.trans hcx⟩
       refine AllReady.cons rfl (fun K hK => ?_) AllReady.nil
       go_simp
       refine hK _ _ ?_
       clear hK K
       try simp only [Act.put,y1,y2,y3,y4,y5,y6]
       have HK1:=hid (KR.one_ NA3.out (S':=fun b => w.heap.size < b /\ b ≠ w1.heap.size) (fun _ h _ => h) (⟨hz,by omega⟩) 25)
       have hbx : Below w5.drew.heap.size w5.drew (w5.drew.alloc (.cells #[.int .i64 a3.op,.string ⟨a3.nm.toArray⟩,.int .i64 a3.n,.string ⟨a3.t.toArray⟩,.slice A3 a3.l.length c3] 25)):=bl _
       replace HN:=hid (HN.out.below hbx)
       replace NA3:=hid (NA3.out.below hbx)
       have hx:=gw3 HP.out HC.out HZ.out hbx
       clear HP HC HZ hz hgl hbx
       obtain ⟨HP,HC,HZ,hz,hgl⟩:=hx
       replace hn1:=HN.out.lt
       have mm2 : True:=trivial
       rotate_left
     all_goals first
      | fail_if_success clear mm2
      |
       clear mm2
       refine wpAny_ready (rs:=[1]) (by kernel_rfl) (by simp) ?_
       refine AllReady.cons rfl (fun K hK => ?_) AllReady.nil
       go_simp
       refine (name_no g L u z _ HP.out h5).mono ?_
       intro e wx hp
       obtain ⟨rfl,hcx⟩:=hp
       exact ⟨rfl,rfl,HC.out.trans hcx⟩
   rcases Sy.inv_if hE4 with ⟨hf2,hE5⟩ | ⟨hf2,hE5⟩
   ·
    obtain ⟨m4,hm4,hF4⟩:=Sy.inv_cl hE5
    rcases hF4 with ⟨q4,hF4,rfl⟩ | ⟨b4,q4,hF4,hE6⟩
    all_goals have C2:=hid (fun W (hW : Pt W g L r3) => HX.out m4 (by omega) _ _ hF4 g L W hW)
    ·
     clear hE3 hE4 hE5 hF4 hm4 hm3 hfin
     go_wp2_with fail
     refine mv3 (skip_no g L t3 r3 ⟨#[46]⟩ _ HP.out hf) HC.out HZ.out hlt ?_
     clear HP HC HZ hz hgl
     intro w5 HP HC HZ hz hgl hc
     replace HN:=hid (HN.out.ch hc (by omega))
     replace NA3:=hid (NA3.out.ch hc (by simp;omega))
     replace hn1:=HN.out.lt
     clear hc
     go_wp2_with fail
     refine mv3 (skip_yes g L t3 r3 ⟨#[91]⟩ _ HP.out hf2 (by decide)) HC.out HZ.out hlt ?_
     clear HP HC HZ hz hgl
     intro w6 HP HC HZ hz hgl hc
     replace HN:=hid (HN.out.ch hc (by omega))
     replace NA3:=hid (NA3.out.ch hc (by simp;omega))
     replace hn1:=HN.out.lt
     clear hc
     go_wp2_with fail
     refine wp_region_any (by kernel_rfl) ?_
     change wpAny _ _ _ _ _ _ _ (World.drew _)
     have hbx : Below w6.heap.size w6 w6.drew:=(Below.refl _ _).drew
     replace HN:=hid (HN.out.below hbx)
     replace NA3:=hid (NA3.out.below hbx)
     have hx:=gw3 HP.out HC.out HZ.out hbx
     clear HP HC HZ hz hgl hbx
     obtain ⟨HP,HC,HZ,hz,hgl⟩:=hx
     replace hn1:=HN.out.lt
     refine wpAny_take (i:=1) (v:=?_) rfl (by kernel_rfl) (by kernel_rfl) (by kernel_rfl) (fun _ _ _ h => h) (Or.inl ⟨by rfl,?_⟩) ?_
     rotate_left
     ·
      intro w;go_simp
      first | done | with_reducible rfl
     try simp only [Act.put,y1,y2,y3,y4,y5,y6]
     refine wpAny_ready (rs:=[0,2]) (by kernel_rfl) (by simp) ?_
     refine AllReady.cons rfl (fun K hK => ?_) ?_
     have k0:=HN.out.c0
     have k1:=HN.out.c1
     have k2:=HN.out.c2
     have k3:=HN.out.c3
     have k4:=HN.out.c4
     go_simp
     refine hK _ _ ?_
     clear hK K
     try simp only [Act.put,y1,y2,y3,y4,y5,y6]
     have mm1 : True:=trivial
     rotate_left
     refine AllReady.cons rfl (fun K hK => ?_) AllReady.nil
     go_simp
     refine (C2.out _ HP.out).mono ?_
     intro e wx hp
     obtain ⟨rfl,hcx⟩:=hp
     exact ⟨rfl,rfl,HC.out.trans hcx⟩
     all_goals first
      | fail_if_success clear mm1
      |
       clear mm1
       refine wpAny_ready (rs:=[2]) (by kernel_rfl) (by simp) ?_
       refine AllReady.cons rfl (fun K hK => ?_) AllReady.nil
       go_simp
       refine (C2.out _ HP.out).mono ?_
       intro e wx hp
       obtain ⟨rfl,hcx⟩:=hp
       exact ⟨rfl,rfl,HC.out.trans hcx⟩
    ·
     have hq4 : q4.length <= r3.length:=Sy.ev_le hF4.ev
     clear hE3 hE4 hE5 hF4 hfin
     go_wp2_with fail
     refine mv3 (skip_no g L t3 r3 ⟨#[46]⟩ _ HP.out hf) HC.out HZ.out hlt ?_
     clear HP HC HZ hz hgl
     intro w5 HP HC HZ hz hgl hc
     replace HN:=hid (HN.out.ch hc (by omega))
     replace NA3:=hid (NA3.out.ch hc (by simp;omega))
     replace hn1:=HN.out.lt
     clear hc
     go_wp2_with fail
     refine mv3 (skip_yes g L t3 r3 ⟨#[91]⟩ _ HP.out hf2 (by decide)) HC.out HZ.out hlt ?_
     clear HP HC HZ hz hgl
     intro w6 HP HC HZ hz hgl hc
     replace HN:=hid (HN.out.ch hc (by omega))
     replace NA3:=hid (NA3.out.ch hc (by simp;omega))
     replace hn1:=HN.out.lt
     clear hc
     go_wp2_with fail
     refine wp_region_any (by kernel_rfl) ?_
     change wpAny _ _ _ _ _ _ _ (World.drew _)
     have hbx : Below w6.heap.size w6 w6.drew:=(Below.refl _ _).drew
     replace HN:=hid (HN.out.below hbx)
     replace NA3:=hid (NA3.out.below hbx)
     have hx:=gw3 HP.out HC.out HZ.out hbx
     clear HP HC HZ hz hgl hbx
     obtain ⟨HP,HC,HZ,hz,hgl⟩:=hx
     replace hn1:=HN.out.lt
     refine wpAny_take (i:=1) (v:=?_) rfl (by kernel_rfl) (by kernel_rfl) (by kernel_rfl) (fun _ _ _ h => h) (Or.inl ⟨by rfl,?_⟩) ?_
     rotate_left
     ·
      intro w;go_simp
      first | done | with_reducible rfl
     try simp only [Act.put,y1,y2,y3,y4,y5,y6]
     refine wpAny_ready (rs:=[0,2]) (by kernel_rfl) (by simp) ?_
     refine AllReady.cons rfl (fun K hK => ?_) ?_
     have k0:=HN.out.c0
     have k1:=HN.out.c1
     have k2:=HN.out.c2
     have k3:=HN.out.c3
     have k4:=HN.out.c4
     go_simp
     refine hK _ _ ?_
     clear hK K
     try simp only [Act.put,y1,y2,y3,y4,y5,y6]
     have mm1 : True:=trivial
     rotate_left
     refine AllReady.cons rfl (fun K hK => ?_) AllReady.nil
     go_simp
     refine ok3 (S':=fun b => w.heap.size < b /\ b ≠ w1.heap.size) (C2.out _ HP.out) HC.out HZ.out hlt (fun b hb => (by have hb : w6.drew.heap.size <= b:=hb;exact ⟨by omega,by omega⟩)) ?_
     clear HP HC HZ hz hgl
     intro Ay cy w7 NAy HP HC HZ hz hgl hc
     replace HN:=hid (HN.out.ch hc (by omega))
     replace NA3:=hid (NA3.out.ch hc (by simp;omega))
     replace hn1:=HN.out.lt
     clear hc
     unfold ndV
     refine hK _ _ ?_
     clear hK K
     try simp only [Act.put,y1,y2,y3,y4,y5,y6]
     have mm2 : True:=trivial
     rotate_left
     all_goals first
      | fail_if_success clear mm1
      |
       clear mm1
       refine wpAny_ready (rs:=[2]) (by kernel_rfl) (by simp) ?_
       refine AllReady.cons rfl (fun K hK => ?_) AllReady.nil
       go_simp
       refine ok3 (S':=fun b => w.heap.size < b /\ b ≠ w1.heap.size) (C2.out _ HP.out) HC.out HZ.out hlt (fun b hb => (by have hb : w6.drew.heap.size <= b:=hb;exact ⟨by omega,by omega⟩)) ?_
       clear HP HC HZ hz hgl
       intro Ay cy w7 NAy HP HC HZ hz hgl hc
       replace HN:=hid (HN.out.ch hc (by omega))
       replace NA3:=hid (NA3.out.ch hc (by simp;omega))
       replace hn1:=HN.out.lt
       clear hc
       unfold ndV
       refine hK _ _ ?_
       clear hK K
       try simp only [Act.put,y1,y2,y3,y4,y5,y6]
       have mm3 : True:=trivial
       rotate_left
     all_goals first
      | fail_if_success clear mm2
      |
       clear mm2
       refine wpAny_ready (rs:=[0]) (by kernel_rfl) (by simp) ?_
       refine AllReady.cons rfl (fun K hK => ?_) AllReady.nil
       have k0:=HN.out.c0
       have k1:=HN.out.c1
       have k2:=HN.out.c2
       have k3:=HN.out.c3
       have k4:=HN.out.c4
       go_simp
       refine hK _ _ ?_
       clear hK K
       try simp only [Act.put,y1,y2,y3,y4,y5,y6]
       have mm3 : True:=trivial
       rotate_left
     all_goals first
      | fail_if_success clear mm3
      |
       clear mm3
       refine wpAny_ready (rs:=[3]) (by kernel_rfl) (by simp) ?_
       refine AllReady.cons rfl (fun K hK => ?_) AllReady.nil
       go_simp
       refine hK _ _ ?_
       clear hK K
       try simp only [Act.put,y1,y2,y3,y4,y5,y6]
       have HK1:=hid (KR.two_ NA3.out NAy.out (S':=fun b => w.heap.size < b /\ b ≠ w1.heap.size) (fun _ h _ => h) (⟨hz,by omega⟩) 25 #[.int .i64 a3.op,.string ⟨a3.nm.toArray⟩,.int .i64 a3.n,.string ⟨a3.t.toArray⟩,.slice A3 a3.l.length c3,.int .i64 b4.op,.string ⟨b4.nm.toArray⟩,.int .i64 b4.n,.string ⟨b4.t.toArray⟩,.slice Ay b4.l.length cy] (by rfl))
       have hbx : Below w7.heap.size w7 (w7.alloc (.cells #[.int .i64 a3.op,.string ⟨a3.nm.toArray⟩,.int .i64 a3.n,.string ⟨a3.t.toArray⟩,.slice A3 a3.l.length c3,.int .i64 b4.op,.string ⟨b4.nm.toArray⟩,.int .i64 b4.n,.string ⟨b4.t.toArray⟩,.slice Ay b4.l.length cy] 25)):=bl _
       replace HN:=hid (HN.out.below hbx)
       replace NA3:=hid (NA3.out.below hbx)
       replace NAy:=hid (NAy.out.below hbx)
       have hx:=gw3 HP.out HC.out HZ.out hbx
       clear HP HC HZ hz hgl hbx
       obtain ⟨HP,HC,HZ,hz,hgl⟩:=hx
       replace hn1:=HN.out.lt
       have mm4 : True:=trivial
       rotate_left
     all_goals first
      | fail_if_success clear mm4
      |
       clear mm4
       refine wpAny_ready (rs:=[4]) (by kernel_rfl) (by simp) ?_
       refine AllReady.cons rfl (fun K hK => ?_) AllReady.nil
       go_simp
       refine (node_any 28 _ _ _ _).mono ?_
       rintro e w8 ⟨rfl,hb⟩
       replace HN:=hid (HN.out.below hb)
       replace NA3:=hid (NA3.out.below hb)
       replace NAy:=hid (NAy.out.below hb)
       replace HK1:=hid (HK1.out.below hb)
       have hx:=gw3 HP.out HC.out HZ.out hb
       clear HP HC HZ hz hgl hb
       obtain ⟨HP,HC,HZ,hz,hgl⟩:=hx
       replace hn1:=HN.out.lt
       have NAY:=hid (na_nd (op:=28) (s:=[]) (n:=0) (t:=[]) (l:=[a3,b4]) (by first | assumption | omega | (constructor <;> omega)) (by omega) (by first | assumption | simp | omega) (by first | assumption | simp | omega) (by simp) HK1.out)
       unfold ndV
       refine hK _ _ ?_
       clear hK K
       try simp only [Act.put,y1,y2,y3,y4,y5,y6]
       have mm5 : True:=trivial
       rotate_left
     all_goals first
      | fail_if_success clear mm5
      |
       clear mm5
       refine wpAny_ready (rs:=[5]) (by kernel_rfl) (by simp) ?_
       refine AllReady.cons rfl (fun K hK => ?_) AllReady.nil
       have k0:=HN.out.c0
       have k1:=HN.out.c1
       have k2:=HN.out.c2
       have k3:=HN.out.c3
       have k4:=HN.out.c4
       have f0:=HN.out.free 0
       have f1:=HN.out.free 1
       have f2:=HN.out.free 2
       have f3:=HN.out.free 3
       have f4:=HN.out.free 4
       go_simp
       refine hK _ _ ?_
       clear hK K
       try simp only [Act.put,y1,y2,y3,y4,y5,y6]
       refine wpAny_done (by kernel_rfl) ?_ _
       rotate_left
     all_goals
      have GN:=hid (HN.out.st5 (op':=28) (s':=[]) (n':=0) (t':=[]) (A':=(some ⟨w7.heap.size,0,none⟩)) (m':=2) (c':=2))
      have GC:=hid (st5 w8 w1.heap.size (.int .i64 28) (.string ⟨([]).toArray⟩) (.int .i64 0) (.string ⟨([]).toArray⟩) (.slice (some ⟨w7.heap.size,0,none⟩) 2 2))
      have GP:=hid (HP.out.chk GC.out (by omega))
      have GZ:=hid (HZ.out.ch GC.out (by omega))
      have GA:=hid (NAY.out.ch GC.out (by simp))
      have GH:=hid (HC.out.new GC.out (by omega))
      generalize (((((w8.setCell ⟨w1.heap.size,0,none⟩ (.int .i64 28)).setCell ⟨w1.heap.size,1,none⟩ (.string ⟨([]).toArray⟩)).setCell ⟨w1.heap.size,2,none⟩ (.int .i64 0)).setCell ⟨w1.heap.size,3,none⟩ (.string ⟨([]).toArray⟩)).setCell ⟨w1.heap.size,4,none⟩ (.slice (some ⟨w7.heap.size,0,none⟩) 2 2)) = w9 at *
      replace HP:=GP
      replace HZ:=GZ
      replace HC:=GH
      replace HN:=GN
      clear GC
      replace hz:=HZ.out.lt
      replace hgl:=HP.out.lt
      replace hn1:=HN.out.lt
      obtain ⟨u,z,rfl⟩:=HP.out.fin.ex
      go_wp2_with fail
      rcases Sy.inv_tk hE6 with ⟨h7,hE7⟩ | ⟨h7,rfl⟩
      ·
       obtain ⟨m5,hm5,hE5⟩:=Sy.inv_tail hE7
       have HE5 : Hid (EvN m5 (.postL (nd 28 [a3,b4])) z r):=hE5
       have hmn5 : m5 < n:=by omega
       clear hE5 hm5 hE6 hE7
       refine mv3 (take_yes g L u z ⟨#[93]⟩ _ HP.out h7 (by decide)) HC.out HZ.out hlt ?_
       clear HP HC HZ hz hgl
       intro w10 HP HC HZ hz hgl hc
       replace HN:=hid (HN.out.ch hc (by omega))
       replace GA:=hid (GA.out.ch hc (by simp;omega))
       replace hn1:=HN.out.lt
       clear hc
       go_wp2_with fail
       have hpos:=HP.out.pos
       refine ⟨por hmn5 HE5.out HN.out GA.out HP.out HC.out HZ.out,?_⟩
       rw [hpos,HMR.out]
       simp only [List.length_cons] at *
       omega
      ·
       refine (take_no g L u z ⟨#[93]⟩ _ HP.out h7).mono ?_
       intro e wz hp
       obtain ⟨rfl,hc⟩:=hp
       go_wp2_with fail
       exact ⟨rfl,rfl,HC.out.trans hc⟩
   ·
    obtain rfl:=Sy.inv_ret hE5
    clear hE3 hE4 hE5 hm3 hfin
    go_wp2_with fail
    refine mv3 (skip_no g L t3 r3 ⟨#[46]⟩ _ HP.out hf) HC.out HZ.out hlt ?_
    clear HP HC HZ hz hgl
    intro w5 HP HC HZ hz hgl hc
    replace HN:=hid (HN.out.ch hc (by omega))
    replace NA3:=hid (NA3.out.ch hc (by simp;omega))
    replace hn1:=HN.out.lt
    clear hc
    go_wp2_with fail
    refine mv3 (skip_no g L t3 r3 ⟨#[91]⟩ _ HP.out hf2) HC.out HZ.out hlt ?_
    clear HP HC HZ hz hgl
    intro w6 HP HC HZ hz hgl hc
    replace HN:=hid (HN.out.ch hc (by omega))
    replace NA3:=hid (NA3.out.ch hc (by simp;omega))
    replace hn1:=HN.out.lt
    clear hc
    have k0:=HN.out.c0
    have k1:=HN.out.c1
    have k2:=HN.out.c2
    have k3:=HN.out.c3
    have k4:=HN.out.c4
    have z0:=HZ.out.c0
    have f0:=HZ.out.free 0
    have z1:=HZ.out.c1
    have f1:=HZ.out.free 1
    have z2:=HZ.out.c2
    have f2:=HZ.out.free 2
    have z3:=HZ.out.c3
    have f3:=HZ.out.free 3
    have z4:=HZ.out.c4
    have f4:=HZ.out.free 4
    have NA4:=hid (NA3.out.more (S':=fun b => w.heap.size < b) (fun b hb _ => hb.1))
    go_wp2_with fail
    exact bodyPost_ret (v:=ndV a3.op a3.nm a3.n a3.t A3 a3.l.length c3) (by simp [results,Tryz.results242,go_sem,ndV,z0,z1,z2,z3,z4,f0,f1,f2,f3,f4]) rfl (fin_st HP.out HC.out hlt NA4.out)
end Go.Proofs.YtgeppafcemeidaaGreatDoor
namespace Go.Proofs.YtgeppafcemeidaaGreatDoor
open Go.RowKit
open Sy (N NT R Ev Run Pg fx hd body opnd inf RunN EvN nd nmd)
open Tk (T)
open Sy (Fin TB)
attribute [local go_sem ↓] Tryz.field0 Tryz.field1
theorem allX : ∀ n,AllX n
 | 0 => ⟨fun _ h => absurd h (by omega),fun _ h => absurd h (by omega),fun _ h => absurd h (by omega),fun _ h => absurd h (by omega),fun _ h => absurd h (by omega),fun _ h => absurd h (by omega),fun _ h => absurd h (by omega),fun _ h => absurd h (by omega),fun _ h => absurd h (by omega),fun _ h => absurd h (by omega),fun _ h => absurd h (by omega),fun _ _ _ _ h => absurd h (by omega)⟩
 | n + 1 => by
  have H:=allX n
  have st : ∀ {nt : NT} {K : Nat},CN n nt K -> (∀ l r,EvN n nt l r -> CF K l r) -> CN (n + 1) nt K:=fun h1 h2 m hm l r hE => by
   rcases Nat.lt_or_ge m n with h | h
   ·
    exact h1 m h l r hE
   ·
    obtain rfl : m = n:=by omega
    exact h2 l r hE
  refine ⟨st H.expr (expr_c n H),st H.conj (conj_c n H),st H.neg (neg_c n H),st H.cmp (cmp_c n H),st H.sum (sum_c n H),st H.prod (prod_c n H),st H.unary (unary_c n H),st H.post (post_c n H),st H.prim (prim_c n H),st H.pair (pair_c n H),st H.lit (lit_c n H),fun op h0 h1 m hm l r hE => ?_⟩
  rcases Nat.lt_or_ge m n with h | h
  ·
   exact H.fcall op h0 h1 m h l r hE
  ·
   obtain rfl : m = n:=by omega
   exact fcall_c m H op h0 h1 l r hE
def CE (nt : NT) (K : Nat) : Prop:=∀ n l r,EvN n nt l r -> CF K l r
theorem expr_e : CE (.chain 1) 35:=fun n l r hE => (allX (n + 1)).expr n (by omega) l r hE
theorem lit_e : CE .lit 171:=fun n l r hE => (allX (n + 1)).lit n (by omega) l r hE
theorem fcall_e (op : Int) (h0 : 0 <= op) (h1 : op <= 100) : ∀ n l r,EvN n (.fcall op) l r -> CG 222 op l r:=fun n l r hE => (allX (n + 1)).fcall op h0 h1 n (by omega) l r hE
end Go.Proofs.YtgeppafcemeidaaGreatDoor
namespace Go.Proofs.YtgeppafcemeidaaGreatDoor
open Go.RowKit
open Sy (N NT R Ev Run Pg fx hd body opnd inf RunN EvN nd nmd)
open Tk (T)
def OwnS (w : World) (S : Nat -> Prop) (v : Value) (l : List N) : Prop:=∃ xs,w.ownsRow 0 25 5 v l.length xs /\ (∀ k,v.ownBlock = some k -> S k) /\ NsC w (fun b => S b /\ v.ownBlock ≠ some b) l xs
section
variable {w w' : World} {S S' : Nat -> Prop} {v : Value} {l : List N}
theorem OwnS.nil_ : OwnS w S (.slice none 0 0) []:=⟨[],World.ownsRow_nil _ _ _ _,fun k hk => by simp [Value.ownBlock] at hk,NsC.nil_⟩
theorem OwnS.kr (h : OwnS w S v l) : KR w S v l:=by
 obtain ⟨xs,h1,h2,h3⟩:=h
 exact ⟨xs,RdN.of_own h1 h2,h3.keep (fun _ hs _ => hs.1) (fun _ _ _ hc => hc)⟩
theorem OwnS.form (h : OwnS w S v l) : ∃ A c,v = .slice A l.length c:=h.kr.form
theorem OwnS.ob (h : OwnS w S v l) : ∀ k,v.ownBlock = some k -> S k /\ k < w.heap.size:=by
 obtain ⟨xs,h1,h2,_⟩:=h
 exact fun k hk => ⟨h2 k hk,(World.ownsRow.lt h1 k hk).2⟩
theorem OwnS.ch {g : Nat} (h : OwnS w S v l) (c : Ch g w w') (hS : ¬ S g) : OwnS w' S v l:=by
 obtain ⟨xs,h1,h2,h3⟩:=h
 refine ⟨xs,?_,h2,h3.keep (fun _ hs _ => hs) (keepCh c (fun hh => hS hh.1))⟩
 rcases h1.2 with ⟨rfl,h0⟩ | ⟨k,cap,cur,rfl,hbg,hk,h4⟩
 ·
  exact ⟨h1.1,.inl ⟨rfl,h0⟩⟩
 ·
  exact ⟨h1.1,.inr ⟨k,cap,cur,rfl,hbg,(c.block k (Array.getElem?_eq_some_iff.1 hk).1 (fun e => by injection e with e;exact hS (e ▸ h2 k rfl))).trans hk,h4⟩⟩
theorem OwnS.below (h : OwnS w S v l) (c : Below w.heap.size w w') : OwnS w' S v l:=by
 obtain ⟨xs,h1,h2,h3⟩:=h
 refine ⟨xs,?_,h2,h3.keep (fun _ hs _ => hs) (keepB c)⟩
 rcases h1.2 with ⟨rfl,h0⟩ | ⟨k,cap,cur,rfl,hbg,hk,h4⟩
 ·
  exact ⟨h1.1,.inl ⟨rfl,h0⟩⟩
 ·
  exact ⟨h1.1,.inr ⟨k,cap,cur,rfl,hbg,(c.block k (Array.getElem?_eq_some_iff.1 hk).1).trans hk,h4⟩⟩
theorem OwnS.lit {xs : Array Value} (h : NsC w S l xs.toList) (hS : S w.heap.size) (hl : l.length <= 1000000) : OwnS (w.alloc (.cells xs 25)) S (.slice (some ⟨w.heap.size,0,none⟩) l.length l.length) l:=by
 have h5:=h.len
 refine ⟨xs.toList,?_,fun k hk => by simp [Value.ownBlock] at hk;subst hk;exact hS,(h.keep (S':=fun b => S b /\ (Value.slice (some ⟨w.heap.size,0,none⟩) l.length l.length).ownBlock ≠ some b) (fun b hs hlt => ⟨hs,by simp [Value.ownBlock];omega⟩) (fun _ _ _ hc => hc)).keep (fun _ hs _ => hs) (keepB ((Below.refl _ _).alloc (Nat.le_refl _) _))⟩
 have:=World.ownsRow_lit (base:=0) (e:=25) (size:=5) w xs l.length (Nat.zero_le _) (by unfold maxLen;omega) (by simpa using h5)
 simpa using this
theorem OwnK.s {base : Nat} (h : OwnK w base v l) (hS : ∀ b,base <= b -> b < w.heap.size -> S b) : OwnS w S v l:=by
 obtain ⟨xs,h1,h2⟩:=h
 refine ⟨xs,?_,fun k hk => hS k (World.ownsRow.lt h1 k hk).1 (World.ownsRow.lt h1 k hk).2,h2.keep (fun b hs hlt => ⟨hS b hs.1 hlt,hs.2⟩) (fun _ _ _ hc => hc)⟩
 rcases h1.2 with ⟨rfl,h0⟩ | ⟨k,cap,cur,rfl,hbg,hk,h4⟩
 ·
  exact ⟨h1.1,.inl ⟨rfl,h0⟩⟩
 ·
  exact ⟨h1.1,.inr ⟨k,cap,cur,rfl,Nat.zero_le _,hk,h4⟩⟩
end
theorem run_appS {wr : World} {S S2 : Nat -> Prop} (ty : TypeId) (v : Value) (l : List N) (n : N) (cs : Array Value) (hown : OwnS wr S v l) (hna : NA wr S2 (.agg cs) n)
  (hS : ∀ b,S2 b -> b < wr.heap.size -> S b /\ v.ownBlock ≠ some b) (hn : S (wr.heap.size + 1)) (hl : l.length <= 1000000) :
  ∃ v' w',(Builtin.append_ #[23,23] ty #[v,.slice (some ⟨wr.heap.size,0,none⟩) 1 1]).run Tryz.prog (wr.alloc (.cells cs 25)) = .ok v' w' /\ OwnS w' S v' (l ++ [n]) /\ wr.grownBy w' v.ownBlock:=by
 obtain ⟨i0,hi,hz0,hz1,hz2⟩:=info_parts Tryz.infoNode
 obtain ⟨xs,ho,hob,hx⟩:=hown
 have hc:=hna.cells rfl
 have hlen:=hc.len5
 have hown2 : (wr.alloc (.cells cs 25)).ownsRow 0 25 5 v l.length xs:=World.ownsRow.alloc ho _
 obtain ⟨v',w',hrun,h2,h3,_,h5⟩:=run_append_own_at (P:=Tryz.prog) _ 0 23 ty 25 i0 _ 5 72 Tryz.underlying23 hi hz0 hz1 hz2 rfl (by omega) v l.length xs hown2
  ⟨wr.heap.size,0,none⟩ 1 1 cs.toList (by simpa using hlen) (fun j u hj => by
   rw [show (⟨wr.heap.size,0,none⟩ : Addr).add j = ⟨wr.heap.size,j,none⟩ by simp [Addr.add];omega,World.cell?_alloc_mark]
   simpa using hj) hc.one (by unfold maxLen;omega) (by omega) (by simp)
 have hG : wr.grownBy w' v.ownBlock:=⟨h3.os,h3.tape,h3.output,Nat.le_trans (by simp) h3.size,fun k hk hne => (h3.block k (by simp;omega) hne).trans (by
  show (wr.heap.push _)[k]? = _
  rw [Array.getElem?_push_lt hk,Array.getElem?_eq_getElem hk])⟩
 have keepc : ∀ (p : Addr) u,(p.block < wr.heap.size /\ v.ownBlock ≠ some p.block) -> wr.cell? p = some u -> w'.cell? p = some u:=fun p u hb hcell => by
  have:=hG.block p.block hb.1 (fun e => hb.2 e.symm)
  unfold World.cell? at hcell |-
  rw [this];exact hcell
 have own' : ∀ b,b < wr.heap.size -> v.ownBlock ≠ some b -> v'.ownBlock ≠ some b:=by
  intro b hb hne
  rcases h5 with h5 | h5
  ·
   rw [h5];exact hne
  ·
   rw [h5];simp;omega
 have ob' : ∀ k,v'.ownBlock = some k -> S k:=by
  intro k hk
  rcases h5 with h5 | h5
  ·
   rw [h5] at hk;exact hob k hk
  ·
   rw [h5] at hk;simp at hk;rw [<- hk];exact hn
 refine ⟨v',w',hrun,⟨xs ++ cs.toList,by rw [List.length_append];exact h2,ob',?_⟩,hG⟩
 refine NsC.app ?_ (NsC.one ?_)
 ·
  have h6:=hx.keep (S':=fun b => S b /\ b < wr.heap.size /\ v.ownBlock ≠ some b) (fun b hs hlt => ⟨hs.1,hlt,hs.2⟩) (fun _ _ _ h => h)
  have h7:=h6.keep (w':=w') (fun _ hs _ => hs) (fun p u hs hcell => keepc p u hs.2 hcell)
  exact h7.keep (fun b hs _ => ⟨hs.1,own' b hs.2.1 hs.2.2⟩) (fun _ _ _ h => h)
 ·
  have h6:=NC.keep (w':=wr) (S':=fun b => S b /\ b < wr.heap.size /\ v.ownBlock ≠ some b) (fun b hs hlt => ⟨(hS b hs hlt).1,hlt,(hS b hs hlt).2⟩) (fun _ _ _ h => h) n _ hc
  have h7:=NC.keep (w':=w') (fun _ hs _ => hs) (fun p u hs hcell => keepc p u hs.2 hcell) n _ h6
  exact NC.keep (fun b hs _ => ⟨hs.1,own' b hs.2.1 hs.2.2⟩) (fun _ _ _ h => h) n _ h7
theorem step_appS {wr : World} {S S2 : Nat -> Prop} {ops : Array Oper} {o : Oper} {a : Act} {K : Act -> World -> Prop} {Q : Exit -> Act -> World -> Prop} {E : Prop} (hgd : o.guard = none) (s x : Operand)
  (ho : o.op = .call { callee:=.builtin .append,args:=#[s,x],argTypes:=#[23,23] })
  (v : Value) (l : List N) (n : N) (cs : Array Value) (hs : a.eval s = v) (hown : OwnS wr S v l) (hna : NA wr S2 (.agg cs) n)
  (hS : ∀ b,S2 b -> b < wr.heap.size -> S b /\ v.ownBlock ≠ some b) (hn : S (wr.heap.size + 1)) (hx : a.eval x = .slice (some ⟨wr.heap.size,0,none⟩) 1 1) (hl : l.length <= 1000000)
  (h : ∀ A' c' w',OwnS w' S (.slice A' (l.length + 1) c') (l ++ [n]) -> wr.grownBy w' v.ownBlock -> K (a.put o.dst (.slice A' (l.length + 1) c')) w') :
  if Region.wanted o (yielded ops a.tmps) = true then Oper.wp Tryz.prog o a (wr.alloc (.cells cs 25)) K Q else E:=by
 have hw : Region.wanted o (yielded ops a.tmps) = true:=by simp [Region.wanted,hgd]
 rw [if_pos hw]
 obtain ⟨v',w',hrun,h2,h3⟩:=run_appS o.type v l n cs hown hna hS hn hl
 obtain ⟨A',c',rfl⟩:=h2.form
 unfold Oper.wp
 simp [execOp,ho,resolve,invoke,builtin,hs,hx,hrun,Result.andThen]
 simp only [List.length_append,List.length_cons,List.length_nil,Nat.zero_add] at h2 |-
 exact h A' c' w' h2 h3
theorem step_appS2 {wr : World} {S S2 : Nat -> Prop} (m' : Nat) {ops : Array Oper} {o : Oper} {a : Act} {K : Act -> World -> Prop} {Q : Exit -> Act -> World -> Prop} {E : Prop} (hgd : o.guard = none) (s x : Operand)
  (ho : o.op = .call { callee:=.builtin .append,args:=#[s,x],argTypes:=#[23,23] })
  (v : Value) (l : List N) (n : N) (cs : Array Value) (hs : a.eval s = v) (hown : OwnS wr S v l) (hna : NA wr S2 (.agg cs) n)
  (hS : ∀ b,S2 b -> b < wr.heap.size -> S b /\ v.ownBlock ≠ some b) (hn : S (wr.heap.size + 1)) (hx : a.eval x = .slice (some ⟨wr.heap.size,0,none⟩) 1 1) (hl : l.length <= 1000000) (hm : m' = l.length + 1)
  (h : ∀ A' c' w',OwnS w' S (.slice A' m' c') (l ++ [n]) -> wr.grownBy w' v.ownBlock -> K (a.put o.dst (.slice A' m' c')) w') :
  if Region.wanted o (yielded ops a.tmps) = true then Oper.wp Tryz.prog o a (wr.alloc (.cells cs 25)) K Q else E:=by
 subst hm
 exact step_appS hgd s x ho v l n cs hs hown hna hS hn hx hl h
theorem OwnS.more {w : World} {S S' : Nat -> Prop} {v : Value} {l : List N} (h : OwnS w S v l) (hS : ∀ b,S b -> b < w.heap.size -> S' b) : OwnS w S' v l:=by
 obtain ⟨xs,h1,h2,h3⟩:=h
 exact ⟨xs,h1,fun k hk => hS k (h2 k hk) (World.ownsRow.lt h1 k hk).2,h3.keep (fun b hs hlt => ⟨hS b hs.1 hlt,hs.2⟩) (fun _ _ _ hc => hc)⟩
theorem OwnS.two_ {w : World} {S : Nat -> Prop} {n m : N} {cs ds : Array Value} (h : NA w S (.agg cs) n) (h2 : NA w S (.agg ds) m) (hB : S w.heap.size) (xs : Array Value) (hx : xs.toList = cs.toList ++ ds.toList) :
  OwnS (w.alloc (.cells xs 25)) S (.slice (some ⟨w.heap.size,0,none⟩) 2 2) [n,m]:=by
 refine OwnS.lit (l:=[n,m]) ?_ hB (by simp)
 rw [hx,NsC_cons]
 exact ⟨_,_,rfl,h.cells rfl,NsC.one (h2.cells rfl)⟩
theorem na_ren {w : World} {S : Nat -> Prop} {op n : Int} {s t s' : List UInt8} {A : Option Addr} {m c : Nat} {a : N} (h : NA w S (ndV op s n t A m c) a) (hs : s'.length <= 20000) : NA w S (ndV a.op s' a.n a.t A a.l.length c) (.mk a.op s' a.n a.t a.l):=by
 obtain ⟨A',c',e,⟨o1,o2,o3,o4,o5,o6,o7⟩,hk⟩:=h.open_
 have e2 : A = A' /\ c = c':=by
  unfold ndV at e
  simp only [Value.agg.injEq,Array.mk.injEq,List.cons.injEq,Value.slice.injEq] at e
  exact ⟨e.2.2.2.2.1.1,e.2.2.2.2.1.2.2⟩
 obtain ⟨rfl,rfl⟩:=e2
 exact NA.mk_ ⟨o1,o2,o3,o4,by omega,o6,o7⟩ hk
theorem wpList_appNS {wr : World} {S S2 : Nat -> Prop} {ops : Array Oper} {rest : List Oper} {o : Oper} {a : Act} {Q : Exit -> Act -> World -> Prop} (hgd : o.guard = none) (s x : Operand)
  (ho : o.op = .call { callee:=.builtin .append,args:=#[s,x],argTypes:=#[23,23] })
  (v : Value) (l : List N) (n : N) (cs : Array Value) (hs : a.eval s = v) (hown : OwnS wr S v l) (hna : NA wr S2 (.agg cs) n)
  (hS : ∀ b,S2 b -> b < wr.heap.size -> S b /\ v.ownBlock ≠ some b) (hn : S (wr.heap.size + 1)) (hx : a.eval x = .slice (some ⟨wr.heap.size,0,none⟩) 1 1) (hl : l.length <= 1000000)
  (h : ∀ A' c' w',OwnS w' S (.slice A' (l.length + 1) c') (l ++ [n]) -> wr.grownBy w' v.ownBlock -> wpList Tryz.prog ops Q rest (a.put o.dst (.slice A' (l.length + 1) c')) w') :
  wpList Tryz.prog ops Q (o :: rest) a (wr.alloc (.cells cs 25)):=by
 obtain ⟨v',w',hrun,h2,h3⟩:=run_appS o.type v l n cs hown hna hS hn hl
 obtain ⟨A',c',rfl⟩:=h2.form
 refine wpList_plain hgd fun _ hK => ?_
 unfold Oper.wp execOp
 simp only [ho,resolve,invoke,builtin,Sem.run_bind,Sem.run_pure,Result.andThen_ok,List.map_toArray,List.map_cons,List.map_nil,hs,hx,hrun]
 simp only [List.length_append,List.length_cons,List.length_nil,Nat.zero_add] at h2 |-
 exact hK _ _ (h A' c' w' h2 h3)
section
variable {w w1 w2 : World} {ob : Option Nat} {g k : Nat} {L l : List T}
theorem Nb.gr {op n : Int} {s t : List UInt8} {A : Option Addr} {m c : Nat} (h : Nb w1 k op s n t A m c) (hc : w1.grownBy w2 ob) (hk : ob ≠ some k) : Nb w2 k op s n t A m c :=
 (hc.block k h.lt (fun e => hk e.symm)).trans h
theorem Pt.gr (h : Pt w1 g L l) (c : w1.grownBy w2 ob) (hg : ∀ j,ob = some j -> g < j) : Pt w2 g L l:=by
 obtain ⟨b,o,c',h1,h2,h3,h4⟩:=h
 have hlt:=(Array.getElem?_eq_some_iff.1 h1).1
 have hne : ∀ j,j <= g -> some j ≠ ob:=fun j hj e => by have:=hg j e.symm;omega
 refine ⟨b,o,c',(c.block g hlt (hne g (Nat.le_refl _))).trans h1,h2,fun i t hi => ?_,h4⟩
 obtain ⟨q0,q1,q2,q3⟩:=h3 i t hi
 have kk : ∀ {j : Nat} {u : Value},w1.cell? ⟨b,j,none⟩ = some u -> w2.cell? ⟨b,j,none⟩ = some u:=fun hh => by
  have:=c.block b (by omega) (hne b (by omega))
  unfold World.cell? at hh |-
  rw [this];exact hh
 exact ⟨kk q0,kk q1,kk q2,kk q3⟩
theorem Ch.gr (a : Ch g w w1) (b : w1.grownBy w2 ob) (hb : ∀ j,ob = some j -> w.heap.size <= j) : Ch g w w2 :=
 ⟨b.os.trans a.os,b.tape.trans a.tape,b.output.trans a.output,Nat.le_trans a.size b.size,fun j hj hne => (b.block j (Nat.lt_of_lt_of_le hj a.size) (fun e => by have:=hb j e.symm;omega)).trans (a.block j hj hne)⟩
theorem Nb.st1 {op n : Int} {s t : List UInt8} {A A' : Option Addr} {m c m' c' : Nat} (h : Nb w1 k op s n t A m c) : Nb (w1.setCell ⟨k,4,none⟩ (.slice A' m' c')) k op s n t A' m' c':=(heap_set (i:=4) (u:=.slice A' m' c') h).trans rfl
theorem Nb.stt {op n : Int} {s t s' : List UInt8} {A : Option Addr} {m c : Nat} (h : Nb w1 k op s n t A m c) : Nb (w1.setCell ⟨k,3,none⟩ (.string ⟨s'.toArray⟩)) k op s n s' A m c:=(heap_set (i:=3) (u:=.string ⟨s'.toArray⟩) h).trans rfl
end
end Go.Proofs.YtgeppafcemeidaaGreatDoor
namespace Go.Proofs.YtgeppafcemeidaaGreatDoor
open Go.RowKit
open Sy (N NT R Ev Run Pg fx hd body opnd inf RunN EvN nd nmd)
open Tk (T)
open Sy (Fin TB)
attribute [local go_sem ↓] Tryz.field0 Tryz.field1
theorem closed_c (n : Nat) (H : AllS n) (op : Int) (ho0 : 0 <= op) (ho1 : op <= 100) (l : List T) (r : R) (hE : EvN n (.closed op) l r) : CG 198 op l r:=by
 intro g L w h
 have hlt:=h.lt
 obtain ⟨t,s,rfl⟩:=h.fin.ex
 obtain ⟨m,hm,hF⟩:=Sy.inv_cl (show RunN n (Sy.cl (.chain 1) (t :: s) fun a r => Sy.tk [59] r fun r => .ret (.ok (nd op [a]) r)) r from hE)
 rcases hF with ⟨q,hF,rfl⟩ | ⟨a,q,hF,hE2⟩
 all_goals have C:=hid (fun W (hW : Pt W g L (t :: s)) => expr_e m _ _ hF g L W hW)
 all_goals clear hE hF hm H
 ·
  have HP : Hid (Pt (w.alloc zNode) g L (t :: s)):=h.below (bl _)
  have HC : Hid (Ch g w (w.alloc zNode)):=Ch.of_below (bl _)
  have HZ : Hid (Nb (w.alloc zNode) w.heap.size 0 [] 0 [] none 0 0):=Nb.zero
  have hz:=HZ.out.lt
  have hgl:=HP.out.lt
  clear h
  go_enter Tryz.func198,Tryz.ntmps198
  go_wp2_with fail
  refine (C.out _ HP.out).mono ?_
  intro e wz hp
  obtain ⟨rfl,hc⟩:=hp
  go_wp2_with fail
  exact ⟨rfl,rfl,HC.out.trans hc⟩
 ·
  have HP : Hid (Pt (w.alloc zNode) g L (t :: s)):=h.below (bl _)
  have HC : Hid (Ch g w (w.alloc zNode)):=Ch.of_below (bl _)
  have HZ : Hid (Nb (w.alloc zNode) w.heap.size 0 [] 0 [] none 0 0):=Nb.zero
  have hz:=HZ.out.lt
  have hgl:=HP.out.lt
  clear h
  go_enter Tryz.func198,Tryz.ntmps198
  go_wp2_with fail
  refine ok3 (S':=fun b => w.heap.size < b) (C.out _ HP.out) HC.out HZ.out hlt (fun b hb => Nat.lt_of_lt_of_le hz hb) ?_
  clear HP HC HZ hz hgl
  intro Ax cx w1 NAx HP HC HZ hz hgl hc
  clear hc
  unfold ndV
  go_wp2_with fail
  refine (node_any op _ _ _ _).mono ?_
  rintro e w2 ⟨rfl,hb⟩
  have hk:=(KR.one_ NAx.out (S':=fun b => w.heap.size < b) (fun _ h _ => h) (hz) 25).below hb
  have hB : Below w1.heap.size w1 w2:=(bl _).trans (hb.mono (by simp))
  replace NAx:=hid (NAx.out.below hB)
  have hx:=gw3 HP.out HC.out HZ.out hB
  clear HP HC HZ hz hgl hB
  obtain ⟨HP,HC,HZ,hz,hgl⟩:=hx
  have NAY:=hid (na_nd (op:=op) (s:=[]) (n:=0) (t:=[]) (l:=[a]) (by first | omega | (constructor <;> omega) | assumption) (by omega) (by first | assumption | simp | omega) (by first | assumption | simp | omega) (by simp) hk)
  clear hk hb
  unfold ndV
  have hgHN : g < w2.heap.size:=hgl
  have hzHN : w.heap.size < w2.heap.size:=hz
  have HN : Hid (Nb (w2.alloc (.cells #[.int .i64 op,.string ⟨([]).toArray⟩,.int .i64 0,.string ⟨([]).toArray⟩,.slice (some ⟨w1.heap.size,0,none⟩) 1 1] 25)) w2.heap.size op ([]) 0 ([]) (some ⟨w1.heap.size,0,none⟩) 1 1):=Nb.new
  have hbx : Below w2.heap.size w2 (w2.alloc (.cells #[.int .i64 op,.string ⟨([]).toArray⟩,.int .i64 0,.string ⟨([]).toArray⟩,.slice (some ⟨w1.heap.size,0,none⟩) 1 1] 25)):=bl _
  replace NAx:=hid (NAx.out.below hbx)
  replace NAY:=hid (NAY.out.below hbx)
  have hx:=gw3 HP.out HC.out HZ.out hbx
  clear HP HC HZ hz hgl hbx
  obtain ⟨HP,HC,HZ,hz,hgl⟩:=hx
  go_wp2_with fail
  obtain ⟨u,z,rfl⟩:=HP.out.fin.ex
  rcases Sy.inv_tk hE2 with ⟨h5,hE3⟩ | ⟨h5,rfl⟩
  ·
   obtain rfl:=Sy.inv_ret hE3
   clear hE2 hE3
   refine mv3 (take_yes g L u z ⟨#[59]⟩ _ HP.out h5 (by decide)) HC.out HZ.out hlt ?_
   clear HP HC HZ hz hgl
   intro w3 HP HC HZ hz hgl hc
   replace NAx:=hid (NAx.out.ch hc (by simp;omega))
   replace NAY:=hid (NAY.out.ch hc (by simp;omega))
   replace HN:=hid (HN.out.ch hc (by omega))
   clear hc
   have k0:=HN.out.c0
   have k1:=HN.out.c1
   have k2:=HN.out.c2
   have k3:=HN.out.c3
   have k4:=HN.out.c4
   have z0:=HZ.out.c0
   have f0:=HZ.out.free 0
   have z1:=HZ.out.c1
   have f1:=HZ.out.free 1
   have z2:=HZ.out.c2
   have f2:=HZ.out.free 2
   have z3:=HZ.out.c3
   have f3:=HZ.out.free 3
   have z4:=HZ.out.c4
   have f4:=HZ.out.free 4
   go_wp2_with fail
   exact bodyPost_ret (v:=ndV op [] 0 [] (some ⟨w1.heap.size,0,none⟩) 1 1) (by simp [results,Tryz.results198,go_sem,ndV,z0,z1,z2,z3,z4,f0,f1,f2,f3,f4]) rfl (fin_st HP.out HC.out hlt NAY.out)
  ·
   refine (take_no g L u z ⟨#[59]⟩ _ HP.out h5).mono ?_
   intro e wz hp
   obtain ⟨rfl,hc⟩:=hp
   go_wp2_with fail
   exact ⟨rfl,rfl,HC.out.trans hc⟩
theorem result_c (n : Nat) (H : AllS n) (l : List T) (r : R) (hE : EvN n .result l r) : CF 197 l r:=by
 intro g L w h
 have hlt:=h.lt
 obtain ⟨t,s,rfl⟩:=h.fin.ex
 rcases Sy.inv_if (show RunN n (if fx (t :: s) = [59] then .ret (.ok (nd 44 []) s) else .call (.closed 44) (t :: s) .ret) r from hE) with ⟨h1,hE1⟩ | ⟨h1,hE1⟩
 ·
  obtain rfl:=Sy.inv_ret hE1
  clear hE hE1 H
  have HP : Hid (Pt (w.alloc zNode) g L (t :: s)):=h.below (bl _)
  have HC : Hid (Ch g w (w.alloc zNode)):=Ch.of_below (bl _)
  have HZ : Hid (Nb (w.alloc zNode) w.heap.size 0 [] 0 [] none 0 0):=Nb.zero
  have hz:=HZ.out.lt
  have hgl:=HP.out.lt
  clear h
  go_enter Tryz.func197,Tryz.ntmps197
  go_wp2_with fail
  refine mv3 (skip_yes g L t s ⟨#[59]⟩ _ HP.out h1 (by decide)) HC.out HZ.out hlt ?_
  clear HP HC HZ hz hgl
  intro w1 HP HC HZ hz hgl hc
  clear hc
  go_wp2_with fail
  refine (node_any 44 none 0 0 _).mono ?_
  rintro e w2 ⟨rfl,hb⟩
  have hk:=(KR.nil_ (w:=w2) (S:=fun b => w.heap.size < b))
  have hB : Below w1.heap.size w1 w2:=hb
  have hx:=gw3 HP.out HC.out HZ.out hB
  clear HP HC HZ hz hgl hB
  obtain ⟨HP,HC,HZ,hz,hgl⟩:=hx
  have NAY:=hid (na_nd (op:=44) (s:=[]) (n:=0) (t:=[]) (l:=[]) (by first | omega | (constructor <;> omega) | assumption) (by omega) (by first | assumption | simp | omega) (by first | assumption | simp | omega) (by simp) hk)
  clear hk hb
  unfold ndV
  have z0:=HZ.out.c0
  have f0:=HZ.out.free 0
  have z1:=HZ.out.c1
  have f1:=HZ.out.free 1
  have z2:=HZ.out.c2
  have f2:=HZ.out.free 2
  have z3:=HZ.out.c3
  have f3:=HZ.out.free 3
  have z4:=HZ.out.c4
  have f4:=HZ.out.free 4
  go_wp2_with fail
  exact bodyPost_ret (v:=ndV 44 [] 0 [] none 0 0) (by simp [results,Tryz.results197,go_sem,ndV,z0,z1,z2,z3,z4,f0,f1,f2,f3,f4]) rfl (fin_st HP.out HC.out hlt NAY.out)
 ·
  obtain ⟨m,hm,hF⟩:=Sy.inv_tail hE1
  have C:=hid (fun W (hW : Pt W g L (t :: s)) => H.closed_ 44 (by decide) (by decide) m (by omega) _ _ hF g L W hW)
  clear hE hE1 hF hm H
  have HP : Hid (Pt (w.alloc zNode) g L (t :: s)):=h.below (bl _)
  have HC : Hid (Ch g w (w.alloc zNode)):=Ch.of_below (bl _)
  have HZ : Hid (Nb (w.alloc zNode) w.heap.size 0 [] 0 [] none 0 0):=Nb.zero
  have hz:=HZ.out.lt
  have hgl:=HP.out.lt
  clear h
  go_enter Tryz.func197,Tryz.ntmps197
  go_wp2_with fail
  refine mv3 (skip_no g L t s ⟨#[59]⟩ _ HP.out h1) HC.out HZ.out hlt ?_
  clear HP HC HZ hz hgl
  intro w1 HP HC HZ hz hgl hc
  clear hc
  go_wp2_with fail
  cases r with
  | bad q =>
   refine (C.out _ HP.out).mono ?_
   intro e wz hp
   obtain ⟨rfl,hc⟩:=hp
   go_wp2_with fail
   exact ⟨rfl,rfl,HC.out.trans hc⟩
  | ok a q =>
   refine ok3 (S':=fun b => w.heap.size < b) (C.out _ HP.out) HC.out HZ.out hlt (fun b hb => Nat.lt_of_lt_of_le hz hb) ?_
   clear HP HC HZ hz hgl
   intro Ax cx w2 NAx HP HC HZ hz hgl hc
   clear hc
   unfold ndV
   have z0:=HZ.out.c0
   have f0:=HZ.out.free 0
   have z1:=HZ.out.c1
   have f1:=HZ.out.free 1
   have z2:=HZ.out.c2
   have f2:=HZ.out.free 2
   have z3:=HZ.out.c3
   have f3:=HZ.out.free 3
   have z4:=HZ.out.c4
   have f4:=HZ.out.free 4
   go_wp2_with fail
   exact bodyPost_ret (v:=ndV a.op a.nm a.n a.t Ax a.l.length cx) (by simp [results,Tryz.results197,go_sem,ndV,z0,z1,z2,z3,z4,f0,f1,f2,f3,f4]) rfl (fin_st HP.out HC.out hlt NAx.out)
theorem comp_c (n : Nat) (H : AllS n) (l : List T) (r : R) (hE : EvN n .comp l r) : CF 200 l r:=by
 intro g L w h
 have hlt:=h.lt
 obtain ⟨t,s,rfl⟩:=h.fin.ex
 obtain ⟨m,hm,hF⟩:=Sy.inv_cl (show RunN n (Sy.cl (.fcall 48) (t :: s) fun a r => Sy.tk [59] r fun r => .ret (.ok a r)) r from hE)
 rcases hF with ⟨q,hF,rfl⟩ | ⟨a,q,hF,hE2⟩
 all_goals have C:=hid (fun W (hW : Pt W g L (t :: s)) => fcall_e 48 (by decide) (by decide) m _ _ hF g L W hW)
 all_goals clear hE hF hm H
 ·
  have HP : Hid (Pt (w.alloc zNode) g L (t :: s)):=h.below (bl _)
  have HC : Hid (Ch g w (w.alloc zNode)):=Ch.of_below (bl _)
  have HZ : Hid (Nb (w.alloc zNode) w.heap.size 0 [] 0 [] none 0 0):=Nb.zero
  have hz:=HZ.out.lt
  have hgl:=HP.out.lt
  clear h
  go_enter Tryz.func200,Tryz.ntmps200
  go_wp2_with fail
  refine (C.out _ HP.out).mono ?_
  intro e wz hp
  obtain ⟨rfl,hc⟩:=hp
  go_wp2_with fail
  exact ⟨rfl,rfl,HC.out.trans hc⟩
 ·
  have HP : Hid (Pt (w.alloc zNode) g L (t :: s)):=h.below (bl _)
  have HC : Hid (Ch g w (w.alloc zNode)):=Ch.of_below (bl _)
  have HZ : Hid (Nb (w.alloc zNode) w.heap.size 0 [] 0 [] none 0 0):=Nb.zero
  have hz:=HZ.out.lt
  have hgl:=HP.out.lt
  clear h
  go_enter Tryz.func200,Tryz.ntmps200
  go_wp2_with fail
  refine ok3 (S':=fun b => w.heap.size < b) (C.out _ HP.out) HC.out HZ.out hlt (fun b hb => Nat.lt_of_lt_of_le hz hb) ?_
  clear HP HC HZ hz hgl
  intro Ax cx w1 NAx HP HC HZ hz hgl hc
  clear hc
  unfold ndV
  have hgHN : g < w1.heap.size:=hgl
  have hzHN : w.heap.size < w1.heap.size:=hz
  have hbx : Below w1.heap.size w1 (w1.alloc (.cells #[.int .i64 a.op,.string ⟨a.nm.toArray⟩,.int .i64 a.n,.string ⟨a.t.toArray⟩,.slice Ax a.l.length cx] 25)):=bl _
  have HN : Hid (Nb (w1.alloc (.cells #[.int .i64 a.op,.string ⟨a.nm.toArray⟩,.int .i64 a.n,.string ⟨a.t.toArray⟩,.slice Ax a.l.length cx] 25)) w1.heap.size a.op a.nm a.n a.t Ax a.l.length cx):=Nb.new
  replace NAx:=hid (NAx.out.below hbx)
  have hx:=gw3 HP.out HC.out HZ.out hbx
  clear HP HC HZ hz hgl hbx
  obtain ⟨HP,HC,HZ,hz,hgl⟩:=hx
  go_wp2_with fail
  obtain ⟨u,z,rfl⟩:=HP.out.fin.ex
  rcases Sy.inv_tk hE2 with ⟨h5,hE3⟩ | ⟨h5,rfl⟩
  ·
   obtain rfl:=Sy.inv_ret hE3
   clear hE2 hE3
   refine mv3 (take_yes g L u z ⟨#[59]⟩ _ HP.out h5 (by decide)) HC.out HZ.out hlt ?_
   clear HP HC HZ hz hgl
   intro w2 HP HC HZ hz hgl hc
   replace NAx:=hid (NAx.out.ch hc (by simp;omega))
   replace HN:=hid (HN.out.ch hc (by omega))
   clear hc
   have k0:=HN.out.c0
   have k1:=HN.out.c1
   have k2:=HN.out.c2
   have k3:=HN.out.c3
   have k4:=HN.out.c4
   have z0:=HZ.out.c0
   have f0:=HZ.out.free 0
   have z1:=HZ.out.c1
   have f1:=HZ.out.free 1
   have z2:=HZ.out.c2
   have f2:=HZ.out.free 2
   have z3:=HZ.out.c3
   have f3:=HZ.out.free 3
   have z4:=HZ.out.c4
   have f4:=HZ.out.free 4
   go_wp2_with fail
   exact bodyPost_ret (v:=ndV a.op a.nm a.n a.t Ax a.l.length cx) (by simp [results,Tryz.results200,go_sem,ndV,z0,z1,z2,z3,z4,f0,f1,f2,f3,f4]) rfl (fin_st HP.out HC.out hlt NAx.out)
  ·
   refine (take_no g L u z ⟨#[59]⟩ _ HP.out h5).mono ?_
   intro e wz hp
   obtain ⟨rfl,hc⟩:=hp
   go_wp2_with fail
   exact ⟨rfl,rfl,HC.out.trans hc⟩
theorem attempt_c (n : Nat) (H : AllS n) (l : List T) (r : R) (hE : EvN n .attempt l r) : CF 199 l r:=by
 intro g L w h
 have hlt:=h.lt
 obtain ⟨t,s,rfl⟩:=h.fin.ex
 obtain ⟨m,hm,hF⟩:=Sy.inv_cl (show RunN n (Sy.cl .block (t :: s) fun a r => Sy.tk [99,97,116,99,104] r fun r => Sy.nm r fun s r => Sy.cl .block r fun b r => .ret (.ok (nmd 46 s [a,b]) r)) r from hE)
 rcases hF with ⟨q,hF,rfl⟩ | ⟨a,q,hF,hE2⟩
 all_goals have C:=hid (fun W (hW : Pt W g L (t :: s)) => H.block_ m (by omega) _ _ hF g L W hW)
 all_goals clear hE hF
 ·
  clear H
  have HP : Hid (Pt (w.alloc zNode) g L (t :: s)):=h.below (bl _)
  have HC : Hid (Ch g w (w.alloc zNode)):=Ch.of_below (bl _)
  have HZ : Hid (Nb (w.alloc zNode) w.heap.size 0 [] 0 [] none 0 0):=Nb.zero
  have hz:=HZ.out.lt
  have hgl:=HP.out.lt
  clear h
  go_enter Tryz.func199,Tryz.ntmps199
  go_wp2_with fail
  refine (C.out _ HP.out).mono ?_
  intro e wz hp
  obtain ⟨rfl,hc⟩:=hp
  go_wp2_with fail
  exact ⟨rfl,rfl,HC.out.trans hc⟩
 ·
  have HH:=hid H
  clear H
  have HP : Hid (Pt (w.alloc zNode) g L (t :: s)):=h.below (bl _)
  have HC : Hid (Ch g w (w.alloc zNode)):=Ch.of_below (bl _)
  have HZ : Hid (Nb (w.alloc zNode) w.heap.size 0 [] 0 [] none 0 0):=Nb.zero
  have hz:=HZ.out.lt
  have hgl:=HP.out.lt
  clear h
  go_enter Tryz.func199,Tryz.ntmps199
  go_wp2_with fail
  refine ok3 (S':=fun b => w.heap.size < b) (C.out _ HP.out) HC.out HZ.out hlt (fun b hb => Nat.lt_of_lt_of_le hz hb) ?_
  clear HP HC HZ hz hgl
  intro Ax cx w1 NAx HP HC HZ hz hgl hc
  clear hc
  unfold ndV
  have hgHN : g < w1.heap.size:=hgl
  have hzHN : w.heap.size < w1.heap.size:=hz
  have hbx : Below w1.heap.size w1 (w1.alloc (.cells #[.int .i64 a.op,.string ⟨a.nm.toArray⟩,.int .i64 a.n,.string ⟨a.t.toArray⟩,.slice Ax a.l.length cx] 25)):=bl _
  have HN : Hid (Nb (w1.alloc (.cells #[.int .i64 a.op,.string ⟨a.nm.toArray⟩,.int .i64 a.n,.string ⟨a.t.toArray⟩,.slice Ax a.l.length cx] 25)) w1.heap.size a.op a.nm a.n a.t Ax a.l.length cx):=Nb.new
  replace NAx:=hid (NAx.out.below hbx)
  have hx:=gw3 HP.out HC.out HZ.out hbx
  clear HP HC HZ hz hgl hbx
  obtain ⟨HP,HC,HZ,hz,hgl⟩:=hx
  go_wp2_with fail
  obtain ⟨u,z,rfl⟩:=HP.out.fin.ex
  rcases Sy.inv_tk hE2 with ⟨h5,hE3⟩ | ⟨h5,rfl⟩
  ·
   refine mv3 (take_yes g L u z ⟨#[99,97,116,99,104]⟩ _ HP.out h5 (by decide)) HC.out HZ.out hlt ?_
   clear HP HC HZ hz hgl
   intro w2 HP HC HZ hz hgl hc
   replace NAx:=hid (NAx.out.ch hc (by simp;omega))
   replace HN:=hid (HN.out.ch hc (by omega))
   clear hc
   go_wp2_with fail
   obtain ⟨u2,z2,rfl⟩:=HP.out.fin.ex
   have htu:=HP.out.fin.tb.2.2.1
   rcases Sy.inv_nm hE3 with ⟨h6,hE4⟩ | ⟨h6,rfl⟩
   ·
    refine mv3 (name_yes g L u2 z2 _ HP.out h6) HC.out HZ.out hlt ?_
    clear HP HC HZ hz hgl
    intro w3 HP HC HZ hz hgl hc
    replace NAx:=hid (NAx.out.ch hc (by simp;omega))
    replace HN:=hid (HN.out.ch hc (by omega))
    clear hc
    go_wp2_with fail
    obtain ⟨m2,hm2,hF2⟩:=Sy.inv_cl hE4
    rcases hF2 with ⟨q2,hF2,rfl⟩ | ⟨b,q2,hF2,hE5⟩
    all_goals have C2:=hid (fun W (hW : Pt W g L z2) => HH.out.block_ m2 (by omega) _ _ hF2 g L W hW)
    all_goals clear hF2 hE2 hE3 hE4 hm hm2
    ·
     refine wp_region_any (by kernel_rfl) ?_
     change wpAny _ _ _ _ _ _ _ (World.drew _)
     have hbx : Below w3.heap.size w3 w3.drew:=(Below.refl _ _).drew
     replace NAx:=hid (NAx.out.below hbx)
     replace HN:=hid (HN.out.below hbx)
     have hx:=gw3 HP.out HC.out HZ.out hbx
     clear HP HC HZ hz hgl hbx
     obtain ⟨HP,HC,HZ,hz,hgl⟩:=hx
     refine wpAny_take (i:=0) (v:=?_) rfl (by kernel_rfl) (by kernel_rfl) (by kernel_rfl) (fun _ _ _ h => h) (Or.inl ⟨by rfl,?_⟩) ?_
     rotate_left
     ·
      intro w;go_simp
      first | done | with_reducible rfl
     try simp only [Act.put,y1,y2,y3,y4,y5,y6]
     refine wpAny_take (i:=2) (v:=?_) rfl (by kernel_rfl) (by kernel_rfl) (by kernel_rfl) (fun _ _ _ h => h) (Or.inl ⟨by rfl,?_⟩) ?_
     rotate_left
     ·
      intro w;go_simp
      first | done | with_reducible rfl
     try simp only [Act.put,y1,y2,y3,y4,y5,y6]
     refine wpAny_ready (rs:=[1,3]) (by kernel_rfl) (by simp) ?_
     refine AllReady.cons rfl (fun K hK => ?_) ?_
     have k0:=HN.out.c0
     have k1:=HN.out.c1
     have k2:=HN.out.c2
     have k3:=HN.out.c3
     have k4:=HN.out.c4
     go_simp
     refine hK _ _ ?_
     clear hK K
     try simp only [Act.put,y1,y2,y3,y4,y5,y6]
     have mm1 : True:=trivial
     rotate_left
     refine AllReady.cons rfl (fun K hK => ?_) AllReady.nil
     go_simp
     refine (C2.out _ HP.out).mono ?_
     intro e wx hp
     obtain ⟨rfl,hcx⟩:=hp
     exact ⟨rfl,rfl,HC.out.trans hcx⟩
     all_goals first
      | fail_if_success clear mm1
      |
       clear mm1
       refine wpAny_ready (rs:=[3]) (by kernel_rfl) (by simp) ?_
       refine AllReady.cons rfl (fun K hK => ?_) AllReady.nil
       go_simp
       refine (C2.out _ HP.out).mono ?_
       intro e wx hp
       obtain ⟨rfl,hcx⟩:=hp
       exact ⟨rfl,rfl,HC.out.trans hcx⟩
    ·
     obtain rfl:=Sy.inv_ret hE5
     clear hE5
     refine wp_region_any (by kernel_rfl) ?_
     change wpAny _ _ _ _ _ _ _ (World.drew _)
     have hbx : Below w3.heap.size w3 w3.drew:=(Below.refl _ _).drew
     replace NAx:=hid (NAx.out.below hbx)
     replace HN:=hid (HN.out.below hbx)
     have hx:=gw3 HP.out HC.out HZ.out hbx
     clear HP HC HZ hz hgl hbx
     obtain ⟨HP,HC,HZ,hz,hgl⟩:=hx
     refine wpAny_take (i:=0) (v:=?_) rfl (by kernel_rfl) (by kernel_rfl) (by kernel_rfl) (fun _ _ _ h => h) (Or.inl ⟨by rfl,?_⟩) ?_
     rotate_left
     ·
      intro w;go_simp
      first | done | with_reducible rfl
     try simp only [Act.put,y1,y2,y3,y4,y5,y6]
     refine wpAny_take (i:=2) (v:=?_) rfl (by kernel_rfl) (by kernel_rfl) (by kernel_rfl) (fun _ _ _ h => h) (Or.inl ⟨by rfl,?_⟩) ?_
     rotate_left
     ·
      intro w;go_simp
      first | done | with_reducible rfl
     try simp only [Act.put,y1,y2,y3,y4,y5,y6]
     refine wpAny_ready (rs:=[1,3]) (by kernel_rfl) (by simp) ?_
     refine AllReady.cons rfl (fun K hK => ?_) ?_
     have k0:=HN.out.c0
     have k1:=HN.out.c1
     have k2:=HN.out.c2
     have k3:=HN.out.c3
     have k4:=HN.out.c4
     go_simp
     refine hK _ _ ?_
     clear hK K
     try simp only [Act.put,y1,y2,y3,y4,y5,y6]
     have mm1 : True:=trivial
     rotate_left
     refine AllReady.cons rfl (fun K hK => ?_) AllReady.nil
     go_simp
     refine ok3 (S':=fun b => w.heap.size < b) (C2.out _ HP.out) HC.out HZ.out hlt (fun b hb => Nat.lt_of_lt_of_le hz hb) ?_
     clear HP HC HZ hz hgl
     intro Ay cy w4 NAy HP HC HZ hz hgl hc
     replace NAx:=hid (NAx.out.ch hc (by simp;omega))
     replace HN:=hid (HN.out.ch hc (by omega))
     clear hc
     unfold ndV
     refine hK _ _ ?_
     clear hK K
     try simp only [Act.put,y1,y2,y3,y4,y5,y6]
     have mm2 : True:=trivial
     rotate_left
     all_goals first
      | fail_if_success clear mm1
      |
       clear mm1
       refine wpAny_ready (rs:=[3]) (by kernel_rfl) (by simp) ?_
       refine AllReady.cons rfl (fun K hK => ?_) AllReady.nil
       go_simp
       refine ok3 (S':=fun b => w.heap.size < b) (C2.out _ HP.out) HC.out HZ.out hlt (fun b hb => Nat.lt_of_lt_of_le hz hb) ?_
       clear HP HC HZ hz hgl
       intro Ay cy w4 NAy HP HC HZ hz hgl hc
       replace NAx:=hid (NAx.out.ch hc (by simp;omega))
       replace HN:=hid (HN.out.ch hc (by omega))
       clear hc
       unfold ndV
       refine hK _ _ ?_
       clear hK K
       try simp only [Act.put,y1,y2,y3,y4,y5,y6]
       have mm3 : True:=trivial
       rotate_left
     all_goals first
      | fail_if_success clear mm2
      |
       clear mm2
       refine wpAny_ready (rs:=[1]) (by kernel_rfl) (by simp) ?_
       refine AllReady.cons rfl (fun K hK => ?_) AllReady.nil
       have k0:=HN.out.c0
       have k1:=HN.out.c1
       have k2:=HN.out.c2
       have k3:=HN.out.c3
       have k4:=HN.out.c4
       go_simp
       refine hK _ _ ?_
       clear hK K
       try simp only [Act.put,y1,y2,y3,y4,y5,y6]
       have mm3 : True:=trivial
       rotate_left
     all_goals first
      | fail_if_success clear mm3
      |
       clear mm3
       refine wpAny_ready (rs:=[4]) (by kernel_rfl) (by simp) ?_
       refine AllReady.cons rfl (fun K hK => ?_) AllReady.nil
       go_simp
       refine hK _ _ ?_
       clear hK K
       try simp only [Act.put,y1,y2,y3,y4,y5,y6]
       have HK1:=hid (KR.two_ NAx.out NAy.out (S':=fun b => w.heap.size < b) (fun _ h _ => h) (hz) 25 #[.int .i64 a.op,.string ⟨a.nm.toArray⟩,.int .i64 a.n,.string ⟨a.t.toArray⟩,.slice Ax a.l.length cx,.int .i64 b.op,.string ⟨b.nm.toArray⟩,.int .i64 b.n,.string ⟨b.t.toArray⟩,.slice Ay b.l.length cy] (by rfl))
       have hbx : Below w4.heap.size w4 (w4.alloc (.cells #[.int .i64 a.op,.string ⟨a.nm.toArray⟩,.int .i64 a.n,.string ⟨a.t.toArray⟩,.slice Ax a.l.length cx,.int .i64 b.op,.string ⟨b.nm.toArray⟩,.int .i64 b.n,.string ⟨b.t.toArray⟩,.slice Ay b.l.length cy] 25)):=bl _
       replace NAx:=hid (NAx.out.below hbx)
       replace HN:=hid (HN.out.below hbx)
       replace NAy:=hid (NAy.out.below hbx)
       have hx:=gw3 HP.out HC.out HZ.out hbx
       clear HP HC HZ hz hgl hbx
       obtain ⟨HP,HC,HZ,hz,hgl⟩:=hx
       have mm4 : True:=trivial
       rotate_left
     all_goals first
      | fail_if_success clear mm4
      |
       clear mm4
       refine wpAny_ready (rs:=[5]) (by kernel_rfl) (by simp) ?_
       refine AllReady.cons rfl (fun K hK => ?_) AllReady.nil
       go_simp
       refine (named_any 46 u2.t _ _ _ _).mono ?_
       rintro e w5 ⟨rfl,hb⟩
       replace NAx:=hid (NAx.out.below hb)
       replace HN:=hid (HN.out.below hb)
       replace NAy:=hid (NAy.out.below hb)
       replace HK1:=hid (HK1.out.below hb)
       have hx:=gw3 HP.out HC.out HZ.out hb
       clear HP HC HZ hz hgl hb
       obtain ⟨HP,HC,HZ,hz,hgl⟩:=hx
       have NAY:=hid (na_nd (op:=46) (s:=u2.t) (n:=0) (t:=[]) (l:=[a,b]) (by first | assumption | omega | (constructor <;> omega)) (by omega) (by first | assumption | simp | omega) (by first | assumption | simp | omega) (by simp) HK1.out)
       unfold ndV
       refine hK _ _ ?_
       clear hK K
       try simp only [Act.put,y1,y2,y3,y4,y5,y6]
       have mm5 : True:=trivial
       rotate_left
     all_goals first
      | fail_if_success clear mm5
      |
       clear mm5
       refine wpAny_ready (rs:=[6]) (by kernel_rfl) (by simp) ?_
       refine AllReady.cons rfl (fun K hK => ?_) AllReady.nil
       have z0:=HZ.out.c0
       have f0:=HZ.out.free 0
       have z1:=HZ.out.c1
       have f1:=HZ.out.free 1
       have z2:=HZ.out.c2
       have f2:=HZ.out.free 2
       have z3:=HZ.out.c3
       have f3:=HZ.out.free 3
       have z4:=HZ.out.c4
       have f4:=HZ.out.free 4
       go_simp
       refine hK _ _ ?_
       clear hK K
       try simp only [Act.put,y1,y2,y3,y4,y5,y6]
       refine wpAny_done (by kernel_rfl) ?_ _
       rotate_left
     all_goals
      go_wp2_with fail
      exact bodyPost_ret (v:=ndV 46 u2.t 0 [] (some ⟨w4.heap.size,0,none⟩) 2 2) (by simp [results,Tryz.results199,go_sem,ndV,z0,z1,z2,z3,z4,f0,f1,f2,f3,f4]) rfl (fin_st HP.out HC.out hlt NAY.out)
   ·
    refine (name_no g L u2 z2 _ HP.out h6).mono ?_
    intro e wz hp
    obtain ⟨rfl,hc⟩:=hp
    go_wp2_with fail
    exact ⟨rfl,rfl,HC.out.trans hc⟩
  ·
   refine (take_no g L u z ⟨#[99,97,116,99,104]⟩ _ HP.out h5).mono ?_
   intro e wz hp
   obtain ⟨rfl,hc⟩:=hp
   go_wp2_with fail
   exact ⟨rfl,rfl,HC.out.trans hc⟩
theorem const_c (n : Nat) (H : AllS n) (l : List T) (r : R) (hE : EvN n .const l r) : CF 136 l r:=by
 intro g L w h
 have hlt:=h.lt
 obtain ⟨t,s,rfl⟩:=h.fin.ex
 have CN1:=hid (fun (t : T) (s : List T) W (hW : Pt W g L (t :: s)) => next_any g L t s W hW)
 unfold tkV at CN1
 rcases Sy.inv_if (show RunN n (if fx (t :: s) = [45] then (if (Sy.hd s).k = 3 then Sy.cl .lit s fun a r => .ret (.ok (nd 14 [a]) r) else .ret (.bad s)) else .call .lit (t :: s) .ret) r from hE) with ⟨h1,hE1⟩ | ⟨h1,hE1⟩
 ·
  have hf2:=h.fin.tail (Sy.fx_k h1 (by decide))
  obtain ⟨u,z,rfl⟩:=hf2.ex
  clear hf2
  rcases Sy.inv_if hE1 with ⟨h2,hE2⟩ | ⟨h2,hE2⟩
  ·
   have hb3 : (u.k == 3) = true:=by simpa using (show u.k = 3 from h2)
   obtain ⟨m,hm,hF⟩:=Sy.inv_cl hE2
   rcases hF with ⟨q,hF,rfl⟩ | ⟨a,q,hF,hE3⟩
   all_goals have C:=hid (fun W (hW : Pt W g L (u :: z)) => lit_e m _ _ hF g L W hW)
   all_goals clear hE hE1 hE2 hF hm H h2
   ·
    have HP : Hid (Pt (w.alloc zNode) g L (t :: u :: z)):=h.below (bl _)
    have HC : Hid (Ch g w (w.alloc zNode)):=Ch.of_below (bl _)
    have HZ : Hid (Nb (w.alloc zNode) w.heap.size 0 [] 0 [] none 0 0):=Nb.zero
    have hz:=HZ.out.lt
    have hgl:=HP.out.lt
    clear h
    go_enter Tryz.func136,Tryz.ntmps136
    go_wp2_with fail
    refine mv3 (skip_yes g L t (u :: z) ⟨#[45]⟩ _ HP.out h1 (by decide)) HC.out HZ.out hlt ?_
    clear HP HC HZ hz hgl
    intro w1 HP HC HZ hz hgl hc
    clear hc
    go_wp2_with fail
    refine qt3 (CN1.out u z _ HP.out) HP.out HC.out HZ.out ?_
    clear HP HC HZ hz hgl
    intro w2 HP HC HZ hz hgl hc
    clear hc
    go_wp2_with fail
    refine (require_yes g _).mono ?_
    rintro e w3 ⟨rfl,hw⟩
    rw [hw] at HP HC HZ hz hgl
    clear hw
    go_wp2_with fail
    refine (C.out _ HP.out).mono ?_
    intro e wz hp
    obtain ⟨rfl,hc⟩:=hp
    go_wp2_with fail
    exact ⟨rfl,rfl,HC.out.trans hc⟩
   ·
    obtain rfl:=Sy.inv_ret hE3
    clear hE3
    have HP : Hid (Pt (w.alloc zNode) g L (t :: u :: z)):=h.below (bl _)
    have HC : Hid (Ch g w (w.alloc zNode)):=Ch.of_below (bl _)
    have HZ : Hid (Nb (w.alloc zNode) w.heap.size 0 [] 0 [] none 0 0):=Nb.zero
    have hz:=HZ.out.lt
    have hgl:=HP.out.lt
    clear h
    go_enter Tryz.func136,Tryz.ntmps136
    go_wp2_with fail
    refine mv3 (skip_yes g L t (u :: z) ⟨#[45]⟩ _ HP.out h1 (by decide)) HC.out HZ.out hlt ?_
    clear HP HC HZ hz hgl
    intro w1 HP HC HZ hz hgl hc
    clear hc
    go_wp2_with fail
    refine qt3 (CN1.out u z _ HP.out) HP.out HC.out HZ.out ?_
    clear HP HC HZ hz hgl
    intro w2 HP HC HZ hz hgl hc
    clear hc
    go_wp2_with fail
    refine (require_yes g _).mono ?_
    rintro e w3 ⟨rfl,hw⟩
    rw [hw] at HP HC HZ hz hgl
    clear hw
    go_wp2_with fail
    refine ok3 (S':=fun b => w.heap.size < b) (C.out _ HP.out) HC.out HZ.out hlt (fun b hb => Nat.lt_of_lt_of_le hz hb) ?_
    clear HP HC HZ hz hgl
    intro Ax cx w4 NAx HP HC HZ hz hgl hc
    clear hc
    unfold ndV
    go_wp2_with fail
    refine (node_any 14 _ _ _ _).mono ?_
    rintro e w5 ⟨rfl,hb⟩
    have hk:=(KR.one_ NAx.out (S':=fun b => w.heap.size < b) (fun _ h _ => h) (hz) 25).below hb
    have hB : Below w4.heap.size w4 w5:=(bl _).trans (hb.mono (by simp))
    replace NAx:=hid (NAx.out.below hB)
    have hx:=gw3 HP.out HC.out HZ.out hB
    clear HP HC HZ hz hgl hB
    obtain ⟨HP,HC,HZ,hz,hgl⟩:=hx
    have NAY:=hid (na_nd (op:=14) (s:=[]) (n:=0) (t:=[]) (l:=[a]) (by first | omega | (constructor <;> omega) | assumption) (by omega) (by first | assumption | simp | omega) (by first | assumption | simp | omega) (by simp) hk)
    clear hk hb
    unfold ndV
    have z0:=HZ.out.c0
    have f0:=HZ.out.free 0
    have z1:=HZ.out.c1
    have f1:=HZ.out.free 1
    have z2:=HZ.out.c2
    have f2:=HZ.out.free 2
    have z3:=HZ.out.c3
    have f3:=HZ.out.free 3
    have z4:=HZ.out.c4
    have f4:=HZ.out.free 4
    go_wp2_with fail
    exact bodyPost_ret (v:=ndV 14 [] 0 [] (some ⟨w4.heap.size,0,none⟩) 1 1) (by simp [results,Tryz.results136,go_sem,ndV,z0,z1,z2,z3,z4,f0,f1,f2,f3,f4]) rfl (fin_st HP.out HC.out hlt NAY.out)
  ·
   obtain rfl:=Sy.inv_ret hE2
   have hb3 : (u.k == 3) = false:=by simpa using (show ¬ u.k = 3 from h2)
   clear hE hE1 hE2 H h2
   have HP : Hid (Pt (w.alloc zNode) g L (t :: u :: z)):=h.below (bl _)
   have HC : Hid (Ch g w (w.alloc zNode)):=Ch.of_below (bl _)
   have HZ : Hid (Nb (w.alloc zNode) w.heap.size 0 [] 0 [] none 0 0):=Nb.zero
   have hz:=HZ.out.lt
   have hgl:=HP.out.lt
   clear h
   go_enter Tryz.func136,Tryz.ntmps136
   go_wp2_with fail
   refine mv3 (skip_yes g L t (u :: z) ⟨#[45]⟩ _ HP.out h1 (by decide)) HC.out HZ.out hlt ?_
   clear HP HC HZ hz hgl
   intro w1 HP HC HZ hz hgl hc
   clear hc
   go_wp2_with fail
   refine qt3 (CN1.out u z _ HP.out) HP.out HC.out HZ.out ?_
   clear HP HC HZ hz hgl
   intro w2 HP HC HZ hz hgl hc
   clear hc
   go_wp2_with fail
   refine (require_no g L u z _ HP.out).mono ?_
   rintro e wz ⟨rfl,hb⟩
   go_wp2_with fail
   exact ⟨rfl,rfl,HC.out.trans (Ch.of_below hb)⟩
 ·
  obtain ⟨m,hm,hF⟩:=Sy.inv_tail hE1
  have C:=hid (fun W (hW : Pt W g L (t :: s)) => lit_e m _ _ hF g L W hW)
  clear hE hE1 hF hm H
  have HP : Hid (Pt (w.alloc zNode) g L (t :: s)):=h.below (bl _)
  have HC : Hid (Ch g w (w.alloc zNode)):=Ch.of_below (bl _)
  have HZ : Hid (Nb (w.alloc zNode) w.heap.size 0 [] 0 [] none 0 0):=Nb.zero
  have hz:=HZ.out.lt
  have hgl:=HP.out.lt
  clear h
  go_enter Tryz.func136,Tryz.ntmps136
  go_wp2_with fail
  refine mv3 (skip_no g L t s ⟨#[45]⟩ _ HP.out h1) HC.out HZ.out hlt ?_
  clear HP HC HZ hz hgl
  intro w1 HP HC HZ hz hgl hc
  clear hc
  go_wp2_with fail
  cases r with
  | bad q =>
   refine (C.out _ HP.out).mono ?_
   intro e wz hp
   obtain ⟨rfl,hc⟩:=hp
   go_wp2_with fail
   exact ⟨rfl,rfl,HC.out.trans hc⟩
  | ok a q =>
   refine ok3 (S':=fun b => w.heap.size < b) (C.out _ HP.out) HC.out HZ.out hlt (fun b hb => Nat.lt_of_lt_of_le hz hb) ?_
   clear HP HC HZ hz hgl
   intro Ax cx w2 NAx HP HC HZ hz hgl hc
   clear hc
   unfold ndV
   have z0:=HZ.out.c0
   have f0:=HZ.out.free 0
   have z1:=HZ.out.c1
   have f1:=HZ.out.free 1
   have z2:=HZ.out.c2
   have f2:=HZ.out.free 2
   have z3:=HZ.out.c3
   have f3:=HZ.out.free 3
   have z4:=HZ.out.c4
   have f4:=HZ.out.free 4
   go_wp2_with fail
   exact bodyPost_ret (v:=ndV a.op a.nm a.n a.t Ax a.l.length cx) (by simp [results,Tryz.results136,go_sem,ndV,z0,z1,z2,z3,z4,f0,f1,f2,f3,f4]) rfl (fin_st HP.out HC.out hlt NAx.out)
theorem global_c (n : Nat) (H : AllS n) (l : List T) (r : R) (hE : EvN n .global l r) : CF 85 l r:=by
 intro g L w h
 have hlt:=h.lt
 obtain ⟨t,s,rfl⟩:=h.fin.ex
 have htt:=h.fin.tb.2.2.1
 rcases Sy.inv_nm (show RunN n (Sy.nm (t :: s) fun s1 r => Sy.tk [61] r fun r => Sy.cl .const r fun a r => Sy.tk [59] r fun r => .ret (.ok (nmd 61 s1 [a]) r)) r from hE) with ⟨h1,hE1⟩ | ⟨h1,rfl⟩
 ·
  have hf2:=h.fin.tail (show t.k ≠ 0 by have : t.k = 1:=h1;omega)
  obtain ⟨u0,z0',rfl⟩:=hf2.ex
  clear hf2
  rcases Sy.inv_tk hE1 with ⟨h2,hE3⟩ | ⟨h2,rfl⟩
  ·
   obtain ⟨m,hm,hF⟩:=Sy.inv_cl hE3
   rcases hF with ⟨q,hF,rfl⟩ | ⟨a,q,hF,hE2⟩
   all_goals have C:=hid (fun W (hW : Pt W g L z0') => H.const_ m (by omega) _ _ hF g L W hW)
   all_goals clear hE hE1 hE3 hF hm H
   ·
    have HP : Hid (Pt (w.alloc zNode) g L (t :: u0 :: z0')):=h.below (bl _)
    have HC : Hid (Ch g w (w.alloc zNode)):=Ch.of_below (bl _)
    have HZ : Hid (Nb (w.alloc zNode) w.heap.size 0 [] 0 [] none 0 0):=Nb.zero
    have hz:=HZ.out.lt
    have hgl:=HP.out.lt
    clear h
    go_enter Tryz.func85,Tryz.ntmps85
    go_wp2_with fail
    refine mv3 (name_yes g L t (u0 :: z0') _ HP.out h1) HC.out HZ.out hlt ?_
    clear HP HC HZ hz hgl
    intro w1 HP HC HZ hz hgl hc
    clear hc
    go_wp2_with fail
    refine mv3 (take_yes g L u0 z0' ⟨#[61]⟩ _ HP.out h2 (by decide)) HC.out HZ.out hlt ?_
    clear HP HC HZ hz hgl
    intro w2 HP HC HZ hz hgl hc
    clear hc
    go_wp2_with fail
    refine (C.out _ HP.out).mono ?_
    intro e wz hp
    obtain ⟨rfl,hc⟩:=hp
    go_wp2_with fail
    exact ⟨rfl,rfl,HC.out.trans hc⟩
   ·
    have HP : Hid (Pt (w.alloc zNode) g L (t :: u0 :: z0')):=h.below (bl _)
    have HC : Hid (Ch g w (w.alloc zNode)):=Ch.of_below (bl _)
    have HZ : Hid (Nb (w.alloc zNode) w.heap.size 0 [] 0 [] none 0 0):=Nb.zero
    have hz:=HZ.out.lt
    have hgl:=HP.out.lt
    clear h
    go_enter Tryz.func85,Tryz.ntmps85
    go_wp2_with fail
    refine mv3 (name_yes g L t (u0 :: z0') _ HP.out h1) HC.out HZ.out hlt ?_
    clear HP HC HZ hz hgl
    intro w1 HP HC HZ hz hgl hc
    clear hc
    go_wp2_with fail
    refine mv3 (take_yes g L u0 z0' ⟨#[61]⟩ _ HP.out h2 (by decide)) HC.out HZ.out hlt ?_
    clear HP HC HZ hz hgl
    intro w2 HP HC HZ hz hgl hc
    clear hc
    go_wp2_with fail
    refine ok3 (S':=fun b => w.heap.size < b) (C.out _ HP.out) HC.out HZ.out hlt (fun b hb => Nat.lt_of_lt_of_le hz hb) ?_
    clear HP HC HZ hz hgl
    intro Ax cx w3 NAx HP HC HZ hz hgl hc
    clear hc
    unfold ndV
    go_wp2_with fail
    refine (named_any 61 t.t _ _ _ _).mono ?_
    rintro e w4 ⟨rfl,hb⟩
    have hk:=(KR.one_ NAx.out (S':=fun b => w.heap.size < b) (fun _ h _ => h) (hz) 25).below hb
    have hB : Below w3.heap.size w3 w4:=(bl _).trans (hb.mono (by simp))
    replace NAx:=hid (NAx.out.below hB)
    have hx:=gw3 HP.out HC.out HZ.out hB
    clear HP HC HZ hz hgl hB
    obtain ⟨HP,HC,HZ,hz,hgl⟩:=hx
    have NAY:=hid (na_nd (op:=61) (s:=t.t) (n:=0) (t:=[]) (l:=[a]) (by first | omega | (constructor <;> omega) | assumption) (by omega) (by first | assumption | simp | omega) (by first | assumption | simp | omega) (by simp) hk)
    clear hk hb
    unfold ndV
    have hgHN : g < w4.heap.size:=hgl
    have hzHN : w.heap.size < w4.heap.size:=hz
    have HN : Hid (Nb (w4.alloc (.cells #[.int .i64 61,.string ⟨(t.t).toArray⟩,.int .i64 0,.string ⟨([]).toArray⟩,.slice (some ⟨w3.heap.size,0,none⟩) 1 1] 25)) w4.heap.size 61 (t.t) 0 ([]) (some ⟨w3.heap.size,0,none⟩) 1 1):=Nb.new
    have hbx : Below w4.heap.size w4 (w4.alloc (.cells #[.int .i64 61,.string ⟨(t.t).toArray⟩,.int .i64 0,.string ⟨([]).toArray⟩,.slice (some ⟨w3.heap.size,0,none⟩) 1 1] 25)):=bl _
    replace NAx:=hid (NAx.out.below hbx)
    replace NAY:=hid (NAY.out.below hbx)
    have hx:=gw3 HP.out HC.out HZ.out hbx
    clear HP HC HZ hz hgl hbx
    obtain ⟨HP,HC,HZ,hz,hgl⟩:=hx
    go_wp2_with fail
    obtain ⟨u,z,rfl⟩:=HP.out.fin.ex
    rcases Sy.inv_tk hE2 with ⟨h5,hE3⟩ | ⟨h5,rfl⟩
    ·
     obtain rfl:=Sy.inv_ret hE3
     clear hE2 hE3
     refine mv3 (take_yes g L u z ⟨#[59]⟩ _ HP.out h5 (by decide)) HC.out HZ.out hlt ?_
     clear HP HC HZ hz hgl
     intro w5 HP HC HZ hz hgl hc
     replace NAx:=hid (NAx.out.ch hc (by simp;omega))
     replace NAY:=hid (NAY.out.ch hc (by simp;omega))
     replace HN:=hid (HN.out.ch hc (by omega))
     clear hc
     have k0:=HN.out.c0
     have k1:=HN.out.c1
     have k2:=HN.out.c2
     have k3:=HN.out.c3
     have k4:=HN.out.c4
     have z0:=HZ.out.c0
     have f0:=HZ.out.free 0
     have z1:=HZ.out.c1
     have f1:=HZ.out.free 1
     have z2:=HZ.out.c2
     have f2:=HZ.out.free 2
     have z3:=HZ.out.c3
     have f3:=HZ.out.free 3
     have z4:=HZ.out.c4
     have f4:=HZ.out.free 4
     go_wp2_with fail
     exact bodyPost_ret (v:=ndV 61 t.t 0 [] (some ⟨w3.heap.size,0,none⟩) 1 1) (by simp [results,Tryz.results85,go_sem,ndV,z0,z1,z2,z3,z4,f0,f1,f2,f3,f4]) rfl (fin_st HP.out HC.out hlt NAY.out)
    ·
     refine (take_no g L u z ⟨#[59]⟩ _ HP.out h5).mono ?_
     intro e wz hp
     obtain ⟨rfl,hc⟩:=hp
     go_wp2_with fail
     exact ⟨rfl,rfl,HC.out.trans hc⟩
  ·
   clear hE hE1 H
   have HP : Hid (Pt (w.alloc zNode) g L (t :: u0 :: z0')):=h.below (bl _)
   have HC : Hid (Ch g w (w.alloc zNode)):=Ch.of_below (bl _)
   have HZ : Hid (Nb (w.alloc zNode) w.heap.size 0 [] 0 [] none 0 0):=Nb.zero
   have hz:=HZ.out.lt
   have hgl:=HP.out.lt
   clear h
   go_enter Tryz.func85,Tryz.ntmps85
   go_wp2_with fail
   refine mv3 (name_yes g L t (u0 :: z0') _ HP.out h1) HC.out HZ.out hlt ?_
   clear HP HC HZ hz hgl
   intro w1 HP HC HZ hz hgl hc
   clear hc
   go_wp2_with fail
   refine (take_no g L u0 z0' ⟨#[61]⟩ _ HP.out h2).mono ?_
   intro e wz hp
   obtain ⟨rfl,hc⟩:=hp
   go_wp2_with fail
   exact ⟨rfl,rfl,HC.out.trans hc⟩
 ·
  clear hE H
  have HP : Hid (Pt (w.alloc zNode) g L (t :: s)):=h.below (bl _)
  have HC : Hid (Ch g w (w.alloc zNode)):=Ch.of_below (bl _)
  have HZ : Hid (Nb (w.alloc zNode) w.heap.size 0 [] 0 [] none 0 0):=Nb.zero
  have hz:=HZ.out.lt
  have hgl:=HP.out.lt
  clear h
  go_enter Tryz.func85,Tryz.ntmps85
  go_wp2_with fail
  refine (name_no g L t s _ HP.out h1).mono ?_
  intro e wz hp
  obtain ⟨rfl,hc⟩:=hp
  go_wp2_with fail
  exact ⟨rfl,rfl,HC.out.trans hc⟩
end Go.Proofs.YtgeppafcemeidaaGreatDoor
namespace Go.Proofs.YtgeppafcemeidaaGreatDoor
open Go.RowKit
open Sy (N NT R Ev Run Pg fx hd body opnd inf RunN EvN nd nmd)
open Tk (T)
open Sy (Fin TB)
attribute [local go_sem ↓] Tryz.field0 Tryz.field1
namespace Sy
def LtR (m : Nat) : R -> Prop
 | .ok _ q => q.length < m
 | .bad _ => True
def WS (m : Nat) (p : Pg) : Prop:=Wp (fun _ l r => LeR l.length r) p (LtR m)
theorem LeR.lt {k m : Nat} {r : R} (h : LeR k r) (hm : k < m) : LtR m r:=by cases r with
 | ok a q => exact Nat.lt_of_le_of_lt h hm
 | bad q => trivial
theorem WS.tail {m : Nat} {nt : NT} {l : List T} (h : l.length < m) : WS m (.call nt l .ret):=fun _ h1 => h1.lt h
theorem WS.le {m : Nat} {p : Pg} {k : Nat} (h : WL k p) (hk : k < m) : WS m p:=by
 unfold WS;unfold WL at h
 exact wp_mono h (fun r hr => hr.lt hk)
where
 wp_mono {I : NT -> List T -> R -> Prop} : ∀ {p : Pg} {Q Q' : R -> Prop},Wp I p Q -> (∀ r,Q r -> Q' r) -> Wp I p Q'
 | .ret r,_,_,h,hq => hq r h
 | .call _ _ k,_,_,h,hq => fun r1 h1 => wp_mono (h r1 h1) hq
theorem WS.ite {m : Nat} {c : Prop} [Decidable c] {p q : Pg} (h1 : c -> WS m p) (h2 : ¬ c -> WS m q) : WS m (if c then p else q):=by
 split
 ·
  exact h1 ‹_›
 ·
  exact h2 ‹_›
theorem WS.tk {m : Nat} {s : List UInt8} {l : List T} {k : List T -> Pg} (hs : s ≠ []) (h : l.length <= m) (hk : l.tail.length < m -> WL l.tail.length (k l.tail)) : WS m (tk s l k):=by
 unfold Sy.tk;split
 ·
  rename_i hf
  have hl : l.tail.length < m:=by cases l with
   | nil => exact absurd hf.symm hs
   | cons t r => simp at h |-;omega
  exact WS.le (hk hl) hl
 ·
  trivial
theorem WS.nm {m : Nat} {l : List T} {k : List UInt8 -> List T -> Pg} (h : l.length <= m) (hk : l.tail.length < m -> WL l.tail.length (k (hd l).t l.tail)) : WS m (nm l k):=by
 unfold Sy.nm;split
 ·
  rename_i hf
  have hl : l.tail.length < m:=by cases l with
   | nil => simp [hd] at hf
   | cons t r => simp at h |-;omega
  exact WS.le (hk hl) hl
 ·
  trivial
theorem WS.cl {m : Nat} {nt : NT} {l : List T} {k : N -> List T -> Pg} (h : l.length <= m) (hk : ∀ a q,q.length <= m -> WS m (k a q)) : WS m (cl nt l k):=by
 intro r1 h1
 cases r1 with
 | ok a q => exact hk a q (Nat.le_trans h1 h)
 | bad q => trivial
theorem tl_lt {l : List T} (h : fx l ≠ []) : l.tail.length < l.length:=by cases l with
 | nil => exact absurd rfl h
 | cons t r => simp
theorem fx_ne {l : List T} {s : List UInt8} (h : fx l = s) (hs : s ≠ []) : fx l ≠ []:=h ▸ hs
theorem ev_ltI (nt : NT) (h : ∀ l,WS l.length (body nt l)) {l : List T} {r : R} (hE : Ev nt l r) : LtR l.length r:=wp_run (I:=fun _ l r => LeR l.length r) (fun nt l => body_le nt l) hE _ (h l)
theorem lt_closed (op : Int) (l : List T) : WS l.length (body (.closed op) l):=by
 unfold body;simp only []
 exact WS.cl (Nat.le_refl _) (fun a q hq => WS.tk (by decide) hq (fun _ => WL.ret (Nat.le_refl _)))
theorem lt_assign (op : Int) (l : List T) : WS l.length (body (.assign op) l):=by
 unfold body;simp only []
 exact WS.nm (Nat.le_refl _) (fun _ => WL.tk (Nat.le_refl _) (fun h => WL.cl h (fun a q hq => WL.ret hq)))
theorem lt_stmt {l : List T} {r : R} (hE : Ev .stmt l r) : LtR l.length r:=by
 have h1 : Run (body .stmt l) r:=hE
 unfold body at h1
 simp only [] at h1
 have go : ∀ {nt : NT} {k : R},Run (.call nt l.tail .ret) k -> fx l ≠ [] -> LtR l.length k:=fun {nt k} h hf => by
  cases h with
  | call h1 h2 => cases h2;exact (ev_le h1).lt (tl_lt hf)
 have go2 : ∀ {nt : NT} {k : R},(∀ l,WS l.length (body nt l)) -> Run (.call nt l .ret) k -> LtR l.length k:=fun {nt k} hw h => by
  cases h with
  | call h1 h2 => cases h2;exact ev_ltI nt hw h1
 repeat
  split at h1
  ·
   rename_i hf
   first
    | exact go h1 (fx_ne hf (by decide))
    | exact go2 (lt_assign _) h1
    | exact wp_run (I:=fun _ l r => LeR l.length r) (fun nt l => body_le nt l) h1 _ (WS.le (k:=l.tail.length) (by first | exact WL.cl (Nat.le_refl _) (fun a q hq => WL.cl hq (fun b q hq => WL.ret hq)) | exact WL.cl (Nat.le_refl _) (fun a q hq => WL.ret hq)) (tl_lt (fx_ne hf (by decide))))
 exact go2 (lt_closed _) h1
theorem lt_decl {l : List T} {r : R} (hE : Ev .decl l r) : LtR l.length r:=by
 refine ev_ltI .decl (fun l => ?_) hE
 unfold body;simp only []
 refine WS.ite (fun hf => WS.tail (tl_lt (fx_ne hf (by decide)))) (fun _ => WS.ite (fun hf => WS.tail (tl_lt (fx_ne hf (by decide)))) (fun _ => WS.tk (by decide) (Nat.le_refl _) (fun _ => ?_)))
 exact WL.ite (WL.tail (tl_le (Nat.le_refl _))) (WL.ite (WL.tail (tl_le (Nat.le_refl _))) (WL.tk (Nat.le_refl _) (fun h => WL.tail h)))
end Sy
end Go.Proofs.YtgeppafcemeidaaGreatDoor
