/-
  Texts of a proof, joined: functions of the program and of its reference by contract, and what holds of trees, tokens and bytes.
-/
import Derived.Test.YtgeppafcemeidaaGreatDoorJPA2
set_option linter.unusedVariables false
set_option linter.unusedSimpArgs false
set_option maxRecDepth 100000
set_option maxHeartbeats 8000000
namespace Go.Proofs.YtgeppafcemeidaaGreatDoor
open Tk (T)
namespace Sy
namespace N
mutual
def size : N -> Nat
 | mk _ _ _ _ l => 1 + sizeL l
def sizeL : List N -> Nat
 | [] => 0
 | v :: l => size v + sizeL l
end
theorem size_mk (op : Int) (nm : List UInt8) (n : Int) (t : List UInt8) (l : List N) : size (mk op nm n t l) = 1 + sizeL l:=by rw [size]
theorem sizeL_nil : sizeL [] = 0:=by rw [sizeL]
theorem sizeL_cons (v : N) (l : List N) : sizeL (v :: l) = size v + sizeL l:=by rw [sizeL]
theorem sizeL_app (a b : List N) : sizeL (a ++ b) = sizeL a + sizeL b:=by
 induction a with
 | nil => simp [sizeL_nil]
 | cons v a ih => simp only [List.cons_append,sizeL_cons,ih];omega
theorem size_pos (v : N) : 0 < size v:=by cases v;rw [size_mk];omega
theorem size_l (v : N) : size v = 1 + sizeL v.l:=by cases v;rw [size_mk];rfl
theorem size_mem {v : N} {l : List N} (h : v ∈ l) : size v <= sizeL l:=by
 induction l with
 | nil => cases h
 | cons u l ih =>
  rw [sizeL_cons]
  rcases List.mem_cons.1 h with rfl | h
  ·
   omega
  ·
   have:=ih h;omega
theorem sizeL_take (l : List N) (i : Nat) : sizeL (l.take i) <= sizeL l:=by
 have:=sizeL_app (l.take i) (l.drop i)
 rw [List.take_append_drop] at this
 omega
mutual
def depth : N -> Nat
 | mk _ _ _ _ l => depthL l + 1
def depthL : List N -> Nat
 | [] => 0
 | v :: l => max (depth v) (depthL l)
end
theorem depth_mk (op : Int) (nm : List UInt8) (n : Int) (t : List UInt8) (l : List N) : depth (mk op nm n t l) = depthL l + 1:=by rw [depth]
theorem depthL_nil : depthL [] = 0:=by rw [depthL]
theorem depthL_cons (v : N) (l : List N) : depthL (v :: l) = max (depth v) (depthL l):=by rw [depthL]
theorem depthL_app (a b : List N) : depthL (a ++ b) = max (depthL a) (depthL b):=by
 induction a with
 | nil => simp [depthL_nil]
 | cons v a ih => simp only [List.cons_append,depthL_cons,ih];omega
mutual
theorem depth_le_size : ∀ v : N,depth v <= size v
 | mk op nm n t l => by rw [depth_mk,size_mk];have:=depthL_le l;omega
theorem depthL_le : ∀ l : List N,depthL l <= sizeL l
 | [] => by rw [depthL_nil,sizeL_nil];omega
 | v :: l => by rw [depthL_cons,sizeL_cons];have:=depth_le_size v;have:=depthL_le l;omega
end
end N
def sl : NT -> Nat
 | .loop _ a => a.size
 | .postL a => a.size
 | .elems _ _ => 1
 | .elemL _ _ acc => 1 + N.sizeL acc
 | .progL acc => 1 + N.sizeL acc
 | .blockL acc => 1 + N.sizeL acc
 | .casesL acc => 1 + N.sizeL acc
 | .prog => 1
 | .cond => 1
 | .branch => 1
 | .choice => 1
 | .attempt => 1
 | _ => 0
def NZ : NT -> Prop
 | .chain v => v ≠ 0
 | .loop v _ => v ≠ 0
 | _ => True
def SzI (nt : NT) (l : List T) (r : R) : Prop:=NZ nt -> match r with
 | .ok a q => a.size + q.length <= l.length + sl nt
 | .bad _ => True
theorem tl_fx {l : List T} (h : fx l ≠ []) : l.tail.length + 1 = l.length:=by cases l with
 | nil => exact absurd rfl h
 | cons t r => simp
theorem tl_hd {l : List T} {k : Int} (h : (hd l).k = k) (hk : k ≠ 0) : l.tail.length + 1 = l.length:=by cases l with
 | nil => exact absurd h.symm hk
 | cons t r => simp
theorem opnd_nz (v : Nat) : NZ (opnd v) /\ sl (opnd v) = 0:=by
 unfold opnd
 by_cases h1 : v = 1
 ·
  rw [if_pos h1];exact ⟨by simp [NZ],rfl⟩
 rw [if_neg h1]
 by_cases h2 : v = 2
 ·
  rw [if_pos h2];exact ⟨trivial,rfl⟩
 rw [if_neg h2]
 by_cases h4 : v = 4
 ·
  rw [if_pos h4];exact ⟨by simp [NZ],rfl⟩
 rw [if_neg h4];exact ⟨trivial,rfl⟩
theorem elm_nz (e : Nat) : NZ (elm e) /\ sl (elm e) = 0:=by
 unfold elm
 by_cases h1 : e = 0
 ·
  rw [if_pos h1];exact ⟨by simp [NZ],rfl⟩
 rw [if_neg h1]
 by_cases h2 : e = 1
 ·
  rw [if_pos h2];exact ⟨trivial,rfl⟩
 rw [if_neg h2];exact ⟨trivial,rfl⟩
def WZ (m : Nat) (p : Pg) : Prop:=Wp SzI p (fun r => match r with
 | .ok a q => a.size + q.length <= m
 | .bad _ => True)
theorem WZ.ret {m : Nat} {a : N} {q : List T} (h : a.size + q.length <= m) : WZ m (.ret (.ok a q)):=h
theorem WZ.bad {m : Nat} {q : List T} : WZ m (.ret (.bad q)):=trivial
theorem WZ.tail {m : Nat} {nt : NT} {l : List T} (hz : NZ nt) (h : l.length + sl nt <= m) : WZ m (.call nt l .ret):=fun r1 h1 => by
 cases r1 with
 | ok a q => exact Nat.le_trans (h1 hz) h
 | bad q => trivial
theorem WZ.cl {m : Nat} {nt : NT} {l : List T} {k : N -> List T -> Pg} (hz : NZ nt) (hk : ∀ a q,a.size + q.length <= l.length + sl nt -> WZ m (k a q)) : WZ m (Sy.cl nt l k):=fun r1 h1 => by
 cases r1 with
 | ok a q => exact hk a q (h1 hz)
 | bad q => trivial
theorem WZ.tk {m : Nat} {s : List UInt8} {l : List T} {k : List T -> Pg} (hs : s ≠ []) (hk : l.tail.length + 1 = l.length -> WZ m (k l.tail)) : WZ m (Sy.tk s l k):=by
 unfold Sy.tk;split
 ·
  exact hk (tl_fx (fx_ne ‹_› hs))
 ·
  trivial
theorem WZ.nm {m : Nat} {l : List T} {k : List UInt8 -> List T -> Pg} (hk : l.tail.length + 1 = l.length -> WZ m (k (hd l).t l.tail)) : WZ m (Sy.nm l k):=by
 unfold Sy.nm;split
 ·
  exact hk (tl_hd ‹_› (by decide))
 ·
  trivial
theorem WZ.ite {m : Nat} {c : Prop} [Decidable c] {p q : Pg} (h1 : c -> WZ m p) (h2 : ¬ c -> WZ m q) : WZ m (if c then p else q):=by
 split
 ·
  exact h1 ‹_›
 ·
  exact h2 ‹_›
theorem inf_nz0 {x : List UInt8} {v : Nat} (h : (inf x).2 = v) (hv : v ≠ 0) : x ≠ []:=by
 intro e;subst e;exact hv h.symm
theorem WZ.ifx {m : Nat} {s : List UInt8} {l : List T} {p q : Pg} (hs : s ≠ []) (h1 : l.tail.length + 1 = l.length -> WZ m p) (h2 : WZ m q) : WZ m (if fx l = s then p else q):=WZ.ite (fun hf => h1 (tl_fx (fx_ne hf hs))) (fun _ => h2)
theorem WZ.ihd {m : Nat} {k : Int} {l : List T} {p q : Pg} (hk : k ≠ 0) (h1 : l.tail.length + 1 = l.length -> WZ m p) (h2 : WZ m q) : WZ m (if (hd l).k = k then p else q):=WZ.ite (fun hf => h1 (tl_hd hf hk)) (fun _ => h2)
theorem WZ.iinf {m v : Nat} {l : List T} {p q : Pg} (hv : v ≠ 0) (h1 : l.tail.length + 1 = l.length -> WZ m p) (h2 : WZ m q) : WZ m (if (inf (fx l)).2 = v then p else q):=WZ.ite (fun hf => h1 (tl_fx (inf_nz0 hf hv))) (fun _ => h2)
theorem WZ.iand {m : Nat} {c : Prop} [Decidable c] {s : List UInt8} {l : List T} {p q : Pg} (hs : s ≠ []) (h1 : l.tail.length + 1 = l.length -> WZ m p) (h2 : WZ m q) : WZ m (if c /\ fx l = s then p else q):=WZ.ite (fun hf => h1 (tl_fx (fx_ne hf.2 hs))) (fun _ => h2)
theorem assigns_tl {l : List T} (h : assigns l = true) : l.tail.length + 1 = l.length /\ l.tail.tail.length + 1 = l.tail.length:=by
 simp only [assigns,Bool.and_eq_true,decide_eq_true_eq] at h
 exact ⟨tl_hd h.1 (by decide),tl_fx (fx_ne h.2 (by decide))⟩
theorem WZ.iasg {m : Nat} {l : List T} {p q : Pg} (h1 : l.tail.length + 1 = l.length -> l.tail.tail.length + 1 = l.tail.length -> WZ m p) (h2 : WZ m q) : WZ m (if assigns l = true then p else q):=WZ.ite (fun hf => h1 (assigns_tl hf).1 (assigns_tl hf).2) (fun _ => h2)
theorem inf_nz {x : List UInt8} {v : Nat} (h : (inf x).2 = v) (hv : v ≠ 0) : x ≠ []:=by
 intro e;subst e;exact hv h.symm
theorem WZ.tkl {m : Nat} {s : List UInt8} {l : List T} {k : List T -> Pg} (hk : l.tail.length <= l.length -> WZ m (k l.tail)) : WZ m (Sy.tk s l k):=by
 unfold Sy.tk;split
 ·
  exact hk (by simp)
 ·
  trivial
theorem wp_m {I : NT -> List T -> R -> Prop} : ∀ {p : Pg} {Q Q' : R -> Prop},Wp I p Q -> (∀ r,Q r -> Q' r) -> Wp I p Q'
 | .ret r,_,_,h,hq => hq r h
 | .call _ _ k,_,_,h,hq => fun r1 h1 => wp_m (h r1 h1) hq
theorem wp_any {I : NT -> List T -> R -> Prop} : ∀ (p : Pg),Wp I p (fun _ => True)
 | .ret _ => trivial
 | .call _ _ k => fun r1 _ => wp_any (k r1)
theorem body_sz (nt : NT) (l : List T) : Wp SzI (body nt l) (SzI nt l):=by
 suffices h : NZ nt -> WZ (l.length + sl nt) (body nt l) by
  by_cases hz : NZ nt
  ·
   exact wp_m (h hz) (fun r hr _ => hr)
  ·
   exact wp_m (wp_any _) (fun r _ hz' => absurd hz' hz)
 intro hz
 cases nt with
 | chain v => exact WZ.cl (opnd_nz v).1 (fun a q h => WZ.tail hz (by rw [(opnd_nz v).2] at h;simp only [sl];omega))
 | loop v a =>
  refine WZ.ite (fun hf => WZ.cl (opnd_nz v).1 (fun b q h => WZ.tail hz ?_)) (fun _ => WZ.ret (by simp only [sl];omega))
  have:=tl_fx (inf_nz hf hz)
  rw [(opnd_nz v).2] at h
  simp only [sl,nd,N.size_mk,N.sizeL_cons,N.sizeL_nil];omega
 | elems last e => exact WZ.ite (fun _ => WZ.ret (by simp [nd,N.size_mk,N.sizeL_nil,sl];omega)) (fun _ => WZ.cl (elm_nz e).1 (fun a q h => WZ.tail trivial (by rw [(elm_nz e).2] at h;simp only [sl,N.sizeL_cons,N.sizeL_nil];omega)))
 | elemL last e acc =>
  unfold body
  simp only []
  refine WZ.ite (fun hf => WZ.cl (elm_nz e).1 (fun a q h => WZ.tail trivial ?_)) (fun _ => WZ.tkl (fun h => WZ.ret ?_))
  ·
   have:=tl_fx (fx_ne hf (by decide))
   rw [(elm_nz e).2] at h
   simp only [sl,N.sizeL_app,N.sizeL_cons,N.sizeL_nil];omega
  ·
   simp only [nd,N.size_mk,sl];omega
 | _ =>
  unfold body
  simp only []
  repeat (first
   | exact WZ.bad
   | (refine WZ.tk (by decide) (fun h => ?_))
   | (refine WZ.nm (fun h => ?_))
   | (refine WZ.cl (by simp [NZ]) (fun a q h => ?_);have hsl:=N.size_l a)
   | exact WZ.tail (by simp [NZ]) (by first | (simp only [sl,nd,nmd,N.size_mk,N.sizeL_cons,N.sizeL_nil,N.sizeL_app] at *;omega) | (simp only [sl,nd,nmd,N.size_mk,N.sizeL_cons,N.sizeL_nil,N.sizeL_app,N.size_l,List.length_tail] at *;omega))
   | exact WZ.ret (by first | (simp only [sl,nd,nmd,N.size_mk,N.sizeL_cons,N.sizeL_nil,N.sizeL_app] at *;omega) | (simp only [sl,nd,nmd,N.size_mk,N.sizeL_cons,N.sizeL_nil,N.sizeL_app,N.size_l,List.length_tail] at *;omega))
   | (refine WZ.ifx (by decide) (fun h => ?_) ?_)
   | (refine WZ.ihd (by decide) (fun h => ?_) ?_)
   | (refine WZ.iinf (by decide) (fun h => ?_) ?_)
   | (refine WZ.iand (by decide) (fun h => ?_) ?_)
   | (refine WZ.iasg (fun h h' => ?_) ?_)
   | (refine WZ.ite (fun _ => ?_) (fun _ => ?_)))
theorem ev_sz {nt : NT} {l : List T} {r : R} (h : Ev nt l r) : SzI nt l r:=ev_inv body_sz h
end Sy
end Go.Proofs.YtgeppafcemeidaaGreatDoor
namespace Go.Proofs.YtgeppafcemeidaaGreatDoor
open Go.RowKit
open Sy (N NT R Ev Run Pg fx hd body opnd inf RunN EvN nd nmd)
theorem take_succ_l {α : Type} (l : List α) (i : Nat) (h : i < l.length) : l.take (i + 1) = l.take i ++ [l[i]]:=by
 rw [List.take_succ_eq_append_getElem h]
section
variable {w w' : World} {S S' : Nat -> Prop}
theorem NA.open2 {a : Value} {op n : Int} {nm t : List UInt8} {l : List N} (h : NA w S a (.mk op nm n t l)) :
  ∃ A c xs,a = .agg #[.int .i64 op,.string ⟨nm.toArray⟩,.int .i64 n,.string ⟨t.toArray⟩,.slice A l.length c] /\ Ok op nm n t l.length /\ l.length <= 9223372036854775807 /\ RdN w S 5 (.slice A l.length c) l.length xs /\ NsC w S l xs:=by
 obtain ⟨A,c,e,ho,xs,h1,h2⟩:=h.open_
 have:=ho.2.2.2.2.2.2
 exact ⟨A,c,xs,e,ho,by simp only [Sy.N.l] at this;omega,h1,h2⟩
theorem NsC.at_ : ∀ {l : List N} {cs : List Value},NsC w S l cs -> ∀ (i : Nat) (hi : i < l.length),∃ c0 c1 c2 c3 c4,cs[i * 5]? = some c0 /\ cs[i * 5 + 1]? = some c1 /\ cs[i * 5 + 2]? = some c2 /\ cs[i * 5 + 3]? = some c3 /\ cs[i * 5 + 4]? = some c4 /\ NC w S l[i] [c0,c1,c2,c3,c4]
 | [],_,_,i,hi => absurd hi (by simp)
 | u :: l,cs,h,i,hi => by
  rw [NsC_cons] at h
  obtain ⟨d1,d2,rfl,h1,h2⟩:=h
  have h5:=NC.len5 h1
  match d1,h5 with
  | [c0,c1,c2,c3,c4],_ =>
   match i,hi with
   | 0,_ => exact ⟨c0,c1,c2,c3,c4,rfl,rfl,rfl,rfl,rfl,h1⟩
   | i + 1,hi =>
    obtain ⟨e0,e1,e2,e3,e4,q0,q1,q2,q3,q4,hv⟩:=NsC.at_ h2 i (by simpa using hi)
    refine ⟨e0,e1,e2,e3,e4,?_,?_,?_,?_,?_,hv⟩
    ·
     rw [show (i + 1) * 5 = i * 5 + 5 by omega];simpa using q0
    ·
     rw [show (i + 1) * 5 + 1 = (i * 5 + 1) + 5 by omega];simpa using q1
    ·
     rw [show (i + 1) * 5 + 2 = (i * 5 + 2) + 5 by omega];simpa using q2
    ·
     rw [show (i + 1) * 5 + 3 = (i * 5 + 3) + 5 by omega];simpa using q3
    ·
     rw [show (i + 1) * 5 + 4 = (i * 5 + 4) + 5 by omega];simpa using q4
theorem kids_at {l : List N} {iv : Value} {ics : List Value} (hr : RdN w S 5 iv l.length ics) (hv : NsC w S l ics) (i : Nat) (hi : i < l.length) :
  ∃ (b o c : Nat) (A : Option Addr) (c1 : Nat),iv = .slice (some ⟨b,o,none⟩) l.length c /\
   w.cell? ⟨b,o + i * 5,none⟩ = some (.int .i64 l[i].op) /\ w.cell? ⟨b,o + i * 5 + 1,none⟩ = some (.string ⟨l[i].nm.toArray⟩) /\ w.cell? ⟨b,o + i * 5 + 2,none⟩ = some (.int .i64 l[i].n) /\ w.cell? ⟨b,o + i * 5 + 3,none⟩ = some (.string ⟨l[i].t.toArray⟩) /\ w.cell? ⟨b,o + i * 5 + 4,none⟩ = some (.slice A l[i].l.length c1) /\
   NA w S (.agg #[.int .i64 l[i].op,.string ⟨l[i].nm.toArray⟩,.int .i64 l[i].n,.string ⟨l[i].t.toArray⟩,.slice A l[i].l.length c1]) l[i]:=by
 obtain ⟨A,c,rfl,_,_,_,h4⟩:=hr
 rcases h4 with h4 | ⟨b,o,rfl,hS,hc⟩
 ·
  omega
 ·
  obtain ⟨c0,c1,c2,c3,c4,q0,q1,q2,q3,q4,hv⟩:=hv.at_ i hi
  obtain ⟨A,cc,he⟩:=hv.form
  simp only [List.cons.injEq,and_true] at he
  obtain ⟨rfl,rfl,rfl,rfl,rfl⟩:=he
  exact ⟨b,o,c,A,cc,rfl,hc _ _ q0,hc _ _ q1,hc _ _ q2,hc _ _ q3,hc _ _ q4,_,rfl,hv⟩
end
def Bx (w : World) (cs : Array Value) (wr : World) : Prop:=Below (w.heap.size + 1) (w.alloc (.cells cs 25)) wr
section
variable {w wr w1 : World} {cs : Array Value}
theorem Bx.refl : Bx w cs (w.alloc (.cells cs 25)):=Below.refl _ _
theorem Bx.below (h : Bx w cs wr) : Below w.heap.size w wr:=(bl _).trans (Below.mono h (by omega))
theorem Bx.size (h : Bx w cs wr) : w.heap.size < wr.heap.size:=by have:=Below.size h;simp at this;omega
theorem Bx.step (h : Bx w cs wr) (hb : Below wr.heap.size wr w1) : Bx w cs w1:=Below.trans h (hb.mono h.size)
theorem Bx.block (h : Bx w cs wr) : wr.heap[w.heap.size]? = some (.cells cs 25 (0,0)):=(Below.block h _ (by omega)).trans (heap_alloc_new w _)
theorem Bx.cell (h : Bx w cs wr) (i : Nat) : wr.cell? ⟨w.heap.size,i,none⟩ = cs[i]?:=cell_of_row wr w.heap.size i cs 25 (0,0) h.block
theorem Bx.free (h : Bx w cs wr) (i : Nat) : wr.frozen? ⟨w.heap.size,i,none⟩ = false:=frozen_of_row wr w.heap.size i cs 25 h.block
end
theorem kids_size {op n : Int} {nm t : List UInt8} {l : List N} {m : Nat} (hm : Sy.N.size (.mk op nm n t l) <= m + 1) (hsz : Sy.N.size (.mk op nm n t l) <= 1099511627776) :
  (∀ u ∈ l,Sy.N.size u <= m /\ Sy.N.size u <= 1099511627776) /\ Sy.N.sizeL l <= 1099511627775:=by
 rw [Sy.N.size_mk] at hm hsz
 exact ⟨fun u hu => by have:=Sy.N.size_mem hu;exact ⟨by omega,by omega⟩,by omega⟩
theorem depth_take {l : List N} {i : Nat} (h : i < l.length) : Sy.N.depthL (l.take (i + 1)) = max (Sy.N.depthL (l.take i)) (Sy.N.depth l[i]):=by
 rw [take_succ_l l i h,Sy.N.depthL_app,Sy.N.depthL_cons,Sy.N.depthL_nil];omega
theorem size_take {l : List N} {i : Nat} (h : i < l.length) : Sy.N.sizeL (l.take (i + 1)) = Sy.N.sizeL (l.take i) + Sy.N.size l[i]:=by
 rw [take_succ_l l i h,Sy.N.sizeL_app,Sy.N.sizeL_cons,Sy.N.sizeL_nil];omega
theorem depth_any (m : Nat) : ∀ (v : N) (a : Value) (w : World) (S : Nat -> Prop),Sy.N.size v <= m -> Sy.N.size v <= 1099511627776 -> NA w S a v ->
  Calls Tryz.prog 47 #[a] w fun e w' => e = .returned (.int .i64 (Sy.N.depth v : Nat)) /\ Below w.heap.size w w':=by
 induction m with
 | zero => intro v a w S h;have:=Sy.N.size_pos v;omega
 | succ m ih =>
  intro v a w S hm hsz hv
  match v with
  | .mk op nm n t l =>
  obtain ⟨A,c,xs,rfl,ho,hl,hr,hvs⟩:=hv.open2
  have HR:=hid hr
  have HV:=hid hvs
  have hd:=Sy.N.depthL_le l
  obtain ⟨hm,hz⟩:=kids_size hm hsz
  have HM:=hid hm
  have HD:=hid (Sy.N.depth_mk op nm n t l)
  clear hv ho hr hvs hm hsz
  generalize Sy.N.depth (.mk op nm n t l) = dd at HD
  have IH:=hid ih
  clear ih
  go_enter Tryz.func47,Tryz.ntmps47
  go_wp2_with fail
  go_loopw [3,9] (fun v3 v9 wr => ∃ i : Nat,i <= l.length /\ v9 = .int .i64 (i : Int) /\ v3 = .int .i64 (Sy.N.depthL (l.take i) : Nat) /\ Below w.heap.size w wr) (fun _ v9 _ => l.length - (intOf v9).toNat)
  case atStart => exact ⟨0,Nat.zero_le _,rfl,by simp [Sy.N.depthL_nil],bl _⟩
  case round =>
   obtain ⟨i,hi,rfl,rfl,hb⟩:=hrel
   by_cases hlt : i < l.length
   ·
    obtain ⟨b,o,cc,A1,c1,he,q0,q1,q2,q3,q4,hva⟩:=kids_at (HR.out.below hb (by omega)) (HV.out.below hb) i hlt
    injection he with he1 he2 he3
    subst he1
    clear he2 he3
    have HVA:=hid hva
    have HM1:=hid (HM.out l[i] (List.getElem_mem hlt))
    have HT:=hid (depth_take hlt)
    clear hva
    go_wp2_with (go_at_call 47;refine (IH.out _ _ _ _ HM1.out.1 HM1.out.2 (HVA.out.below (bl _))).mono ?_;rintro e w1 ⟨rfl,hb1⟩)
    go_roundw
    case rel => exact ⟨i + 1,by omega,by go_num,congrArg (Value.int IntKind.i64) (by rw [HT.out];first | (split <;> omega) | omega),bstep hb (bstep (bl _) hb1)⟩
    case measure => simp [intOf];omega
   ·
    have h2 : l.take i = l:=List.take_of_length_le (by omega)
    have h1 : Sy.N.depthL (l.take i) <= 1099511627776:=by rw [h2];omega
    have H2:=hid h2
    clear h2
    go_wp2_with fail
    go_ret
    exact ⟨ret_int (by rw [HD.out,H2.out];omega),hb⟩
theorem size_any (m : Nat) : ∀ (v : N) (a : Value) (w : World) (S : Nat -> Prop),Sy.N.size v <= m -> Sy.N.size v <= 1099511627776 -> NA w S a v ->
  Calls Tryz.prog 27 #[a] w fun e w' => e = .returned (.int .i64 (Sy.N.size v : Nat)) /\ Below w.heap.size w w':=by
 induction m with
 | zero => intro v a w S h;have:=Sy.N.size_pos v;omega
 | succ m ih =>
  intro v a w S hm hsz hv
  match v with
  | .mk op nm n t l =>
  obtain ⟨A,c,xs,rfl,ho,hl,hr,hvs⟩:=hv.open2
  have HR:=hid hr
  have HV:=hid hvs
  obtain ⟨hm,hz⟩:=kids_size hm hsz
  have HM:=hid hm
  have HD:=hid (Sy.N.size_mk op nm n t l)
  clear hv ho hr hvs hm hsz
  generalize Sy.N.size (.mk op nm n t l) = dd at HD
  have IH:=hid ih
  clear ih
  go_enter Tryz.func27,Tryz.ntmps27
  go_wp2_with fail
  go_loopw [3,9] (fun v3 v9 wr => ∃ i : Nat,i <= l.length /\ v9 = .int .i64 (i : Int) /\ v3 = .int .i64 ((1 + Sy.N.sizeL (l.take i) : Nat) : Int) /\ Below w.heap.size w wr) (fun _ v9 _ => l.length - (intOf v9).toNat)
  case atStart => exact ⟨0,Nat.zero_le _,rfl,by simp [Sy.N.sizeL_nil],bl _⟩
  case round =>
   obtain ⟨i,hi,rfl,rfl,hb⟩:=hrel
   by_cases hlt : i < l.length
   ·
    obtain ⟨b,o,cc,A1,c1,he,q0,q1,q2,q3,q4,hva⟩:=kids_at (HR.out.below hb (by omega)) (HV.out.below hb) i hlt
    injection he with he1 he2 he3
    subst he1
    clear he2 he3
    have HVA:=hid hva
    have HM1:=hid (HM.out l[i] (List.getElem_mem hlt))
    have hq:=Sy.N.sizeL_take l (i + 1)
    have HT:=hid (size_take hlt)
    rw [size_take hlt] at hq
    clear hva
    go_wp2_with (go_at_call 27;refine (IH.out _ _ _ _ HM1.out.1 HM1.out.2 (HVA.out.below (bl _))).mono ?_;rintro e w1 ⟨rfl,hb1⟩)
    go_roundw
    case rel => exact ⟨i + 1,by omega,by go_num,congrArg (Value.int IntKind.i64) (by rw [HT.out];omega),bstep hb (bstep (bl _) hb1)⟩
    case measure => simp [intOf];omega
   ·
    have H2:=hid (List.take_of_length_le (Nat.le_of_not_lt hlt))
    go_wp2_with fail
    go_ret
    exact ⟨ret_int (by rw [HD.out,H2.out]),hb⟩
theorem rdepth_any (m : Nat) : ∀ (v : N) (a : Value) (w : World) (S : Nat -> Prop),Sy.N.size v <= m -> Sy.N.size v <= 1099511627776 -> NA w S a v ->
  Calls Tryz.prog 55 #[a] w fun e w' => e = .returned (.int .i64 (Sy.N.depth v : Nat)) /\ Below w.heap.size w w':=by
 induction m with
 | zero => intro v a w S h;have:=Sy.N.size_pos v;omega
 | succ m ih =>
  intro v a w S hm hsz hv
  match v with
  | .mk op nm n t l =>
  obtain ⟨A,c,xs,rfl,ho,hl,hr,hvs⟩:=hv.open2
  have HR:=hid hr
  have HV:=hid hvs
  have hd:=Sy.N.depthL_le l
  obtain ⟨hm,hz⟩:=kids_size hm hsz
  have HM:=hid hm
  have HD:=hid (Sy.N.depth_mk op nm n t l)
  clear hv ho hr hvs hm hsz
  generalize Sy.N.depth (.mk op nm n t l) = dd at HD
  have IH:=hid ih
  clear ih
  go_enter Tryz.func55,Tryz.ntmps55
  go_wp2_with fail
  go_loopw [3,4] (fun v3 v4 wr => ∃ i : Nat,i <= l.length /\ v4 = .int .i64 (i : Int) /\ v3 = .int .i64 (Sy.N.depthL (l.take i) : Nat) /\ Bx w #[.int .i64 op,.string ⟨nm.toArray⟩,.int .i64 n,.string ⟨t.toArray⟩,.slice A l.length c] wr) (fun _ v4 _ => l.length - (intOf v4).toNat)
  case atStart => exact ⟨0,Nat.zero_le _,rfl,by simp [Sy.N.depthL_nil],Bx.refl⟩
  case round =>
   obtain ⟨i,hi,rfl,rfl,hbx⟩:=hrel
   have hb:=hbx.below
   have hc3:=hbx.cell 4
   simp only [List.getElem?_toArray,List.getElem?_cons_succ,List.getElem?_cons_zero] at hc3
   have HB:=hid hb
   have HBX:=hid hbx
   clear hb hbx
   by_cases hlt : i < l.length
   ·
    obtain ⟨b,o,cc,A1,c1,he,q0,q1,q2,q3,q4,hva⟩:=kids_at (HR.out.below HB.out (by omega)) (HV.out.below HB.out) i hlt
    injection he with he1 he2 he3
    subst he1
    clear he2 he3
    have HVA:=hid hva
    have HM1:=hid (HM.out l[i] (List.getElem_mem hlt))
    have HT:=hid (depth_take hlt)
    clear hva
    go_wp2_with (go_at_call 55;refine (IH.out _ _ _ _ HM1.out.1 HM1.out.2 HVA.out).mono ?_;rintro e w1 ⟨rfl,hb1⟩)
    all_goals
     go_roundw
     case rel => exact ⟨i + 1,by omega,by go_num,congrArg (Value.int IntKind.i64) (by rw [HT.out];omega),HBX.out.step hb1⟩
     case measure => simp [intOf];omega
   ·
    have h2 : l.take i = l:=List.take_of_length_le (by omega)
    have h1 : Sy.N.depthL (l.take i) <= 1099511627776:=by rw [h2];omega
    have H2:=hid h2
    clear h2
    go_wp2_with fail
    go_ret
    exact ⟨ret_int (by rw [HD.out,H2.out];omega),HB.out⟩
theorem rsize_any (m : Nat) : ∀ (v : N) (a : Value) (w : World) (S : Nat -> Prop),Sy.N.size v <= m -> Sy.N.size v <= 1099511627776 -> NA w S a v ->
  Calls Tryz.prog 54 #[a] w fun e w' => e = .returned (.int .i64 (Sy.N.size v : Nat)) /\ Below w.heap.size w w':=by
 induction m with
 | zero => intro v a w S h;have:=Sy.N.size_pos v;omega
 | succ m ih =>
  intro v a w S hm hsz hv
  match v with
  | .mk op nm n t l =>
  obtain ⟨A,c,xs,rfl,ho,hl,hr,hvs⟩:=hv.open2
  have HR:=hid hr
  have HV:=hid hvs
  obtain ⟨hm,hz⟩:=kids_size hm hsz
  have HM:=hid hm
  have HD:=hid (Sy.N.size_mk op nm n t l)
  clear hv ho hr hvs hm hsz
  generalize Sy.N.size (.mk op nm n t l) = dd at HD
  have IH:=hid ih
  clear ih
  go_enter Tryz.func54,Tryz.ntmps54
  go_wp2_with fail
  go_loopw [3,4] (fun v3 v4 wr => ∃ i : Nat,i <= l.length /\ v4 = .int .i64 (i : Int) /\ v3 = .int .i64 ((1 + Sy.N.sizeL (l.take i) : Nat) : Int) /\ Bx w #[.int .i64 op,.string ⟨nm.toArray⟩,.int .i64 n,.string ⟨t.toArray⟩,.slice A l.length c] wr) (fun _ v4 _ => l.length - (intOf v4).toNat)
  case atStart => exact ⟨0,Nat.zero_le _,rfl,by simp [Sy.N.sizeL_nil],Bx.refl⟩
  case round =>
   obtain ⟨i,hi,rfl,rfl,hbx⟩:=hrel
   have hb:=hbx.below
   have hc3:=hbx.cell 4
   simp only [List.getElem?_toArray,List.getElem?_cons_succ,List.getElem?_cons_zero] at hc3
   have HB:=hid hb
   have HBX:=hid hbx
   clear hb hbx
   by_cases hlt : i < l.length
   ·
    obtain ⟨b,o,cc,A1,c1,he,q0,q1,q2,q3,q4,hva⟩:=kids_at (HR.out.below HB.out (by omega)) (HV.out.below HB.out) i hlt
    injection he with he1 he2 he3
    subst he1
    clear he2 he3
    have HVA:=hid hva
    have HM1:=hid (HM.out l[i] (List.getElem_mem hlt))
    have hq:=Sy.N.sizeL_take l (i + 1)
    have HT:=hid (size_take hlt)
    rw [size_take hlt] at hq
    clear hva
    go_wp2_with (go_at_call 54;refine (IH.out _ _ _ _ HM1.out.1 HM1.out.2 HVA.out).mono ?_;rintro e w1 ⟨rfl,hb1⟩)
    go_roundw
    case rel => exact ⟨i + 1,by omega,by go_num,congrArg (Value.int IntKind.i64) (by rw [HT.out];omega),HBX.out.step hb1⟩
    case measure => simp [intOf];omega
   ·
    have H2:=hid (List.take_of_length_le (Nat.le_of_not_lt hlt))
    go_wp2_with fail
    go_ret
    exact ⟨ret_int (by rw [HD.out,H2.out]),HB.out⟩
end Go.Proofs.YtgeppafcemeidaaGreatDoor
