/-
  Texts of a proof, joined: functions of the program and of its reference by contract, and what holds of trees, tokens and bytes.
-/
import Derived.Defers
import Derived.Recover
import Derived.Test.YtgeppafcemeidaaGreatDoorJPC1
import Derived.Test.YtgeppafcemeidaaGreatDoorJPH1
import Derived.Test.YtgeppafcemeidaaGreatDoorJPN1
import Derived.Test.YtgeppafcemeidaaGreatDoorJPS1
import Derived.Test.YtgeppafcemeidaaGreatDoorJPT1
set_option linter.unusedVariables false
set_option linter.unusedSimpArgs false
set_option maxRecDepth 100000
set_option maxHeartbeats 8000000
namespace Go.Proofs.YtgeppafcemeidaaGreatDoor
open Go.RowKit
open Sy (N NT R Ev Run Pg fx hd body opnd inf RunN EvN nd nmd)
open Tk (T)
open Sy (Fin TB)
attribute [local go_sem ↓] Tryz.field0 Tryz.field1
theorem allS : ∀ n,AllS n
 | 0 => ⟨fun _ h => absurd h (by omega),fun _ h => absurd h (by omega),fun _ h => absurd h (by omega),fun _ h => absurd h (by omega),fun _ h => absurd h (by omega),fun _ h => absurd h (by omega),fun _ h => absurd h (by omega),fun _ h => absurd h (by omega),fun _ h => absurd h (by omega),fun _ h => absurd h (by omega),fun _ h => absurd h (by omega),fun _ h => absurd h (by omega),fun _ _ _ _ h => absurd h (by omega),fun _ _ _ _ h => absurd h (by omega),fun _ _ _ _ h => absurd h (by omega)⟩
 | n + 1 => by
  have H:=allS n
  have st : ∀ {nt : NT} {K : Nat},CN n nt K -> (∀ l r,EvN n nt l r -> CF K l r) -> CN (n + 1) nt K:=fun h1 h2 m hm l r hE => by
   rcases Nat.lt_or_ge m n with h | h
   ·
    exact h1 m h l r hE
   ·
    obtain rfl : m = n:=by omega
    exact h2 l r hE
  have sm : ∀ {nt : Int -> NT} {K : Nat},CM n nt K -> (∀ op : Int,0 <= op -> op <= 100 -> ∀ l r,EvN n (nt op) l r -> CG K op l r) -> CM (n + 1) nt K:=fun h1 h2 op h0 h3 m hm l r hE => by
   rcases Nat.lt_or_ge m n with h | h
   ·
    exact h1 op h0 h3 m h l r hE
   ·
    obtain rfl : m = n:=by omega
    exact h2 op h0 h3 l r hE
  exact ⟨st H.decl_ (decl_c n H),st H.global_ (global_c n H),st H.const_ (const_c n H),st H.func_ (func_c n H),st H.block_ (block_c n H),st H.stmt_ (stmt_c n H),st H.cond_ (cond_c n H),st H.result_ (result_c n H),st H.attempt_ (attempt_c n H),st H.comp_ (comp_c n H),st H.choice_ (choice_c n H),st H.branch_ (branch_c n H),sm H.handler_ (handler_c n H),sm H.closed_ (closed_c n H),sm H.assign_ (assign_c n H)⟩
theorem prog_e : CE .prog 30:=fun n l r hE => prog_c n (allS n) l r hE
end Go.Proofs.YtgeppafcemeidaaGreatDoor
namespace Go.Proofs.YtgeppafcemeidaaGreatDoor
open Go.RowKit
open Sy (N NT R Ev Run Pg fx hd body opnd inf RunN EvN nd nmd)
open Tk (T)
open Sy (Fin TB)
attribute [local go_sem ↓] Tryz.field0 Tryz.field1
namespace Sy
theorem lit_tb : ∀ (f : Nat) (l acc : List UInt8) {k : Int} {t : List UInt8} {n : Int} {r : List UInt8},Tk.lit f l acc = .good k t n r -> k = 4 /\ n = 0 /\ t.length <= 4096
 | 0,l,acc,k,t,n,r,h => by simp [Tk.lit] at h
 | f + 1,[],acc,k,t,n,r,h => by simp [Tk.lit] at h
 | f + 1,c :: s,acc,k,t,n,r,h => by
  rw [Tk.lit] at h
  split at h
  ·
   split at h
   ·
    cases h
   ·
    cases h;exact ⟨rfl,rfl,by omega⟩
  ·
   split at h
   ·
    split at h
    ·
     cases h
    ·
     exact lit_tb f _ _ h
   ·
    split at h
    ·
     cases h
    ·
     exact lit_tb f _ _ h
theorem tok_tb {l : List UInt8} {k : Int} {t : List UInt8} {n at_ : Int} {r : List UInt8} (h : Tk.tok l = .good k t n r) : TB ⟨k,at_,t,n⟩:=by
 unfold Tk.tok at h
 split at h
 ·
  cases h;exact ⟨by simp,by simp,by simp,by simp,by simp⟩
 ·
  split at h
  ·
   unfold Tk.wordT at h
   simp only [] at h
   split at h
   ·
    cases h
   ·
    rename_i hle
    injection h with h1 h2 h3 h4
    subst h1 h2 h3
    refine ⟨by simp,by simp,by simp only [] at *;omega,?_,?_⟩ <;> simp only [] <;> split <;> simp
  ·
   split at h
   ·
    unfold Tk.num at h
    simp only [] at h
    split at h
    ·
     cases h
    ·
     split at h
     ·
      cases h
     ·
      rename_i hle
      injection h with h1 h2 h3 h4
      subst h1 h2 h3
      exact ⟨by simp only [];omega,by simp only [] at *;omega,by simp,by simp,by simp⟩
   ·
    split at h
    ·
     obtain ⟨rfl,rfl,h3⟩:=lit_tb _ _ _ h
     exact ⟨by simp,by simp,by simp only [];omega,by simp,by simp⟩
    ·
     unfold Tk.sgn at h
     split at h
     ·
      injection h with h1 h2 h3 h4;subst h1 h2 h3;exact ⟨by simp,by simp,by simp,by simp,by simp⟩
     ·
      split at h
      ·
       injection h with h1 h2 h3 h4;subst h1 h2 h3;exact ⟨by simp,by simp,by simp,by simp,by simp⟩
      ·
       cases h
theorem Fin.cons_ {t : T} {r : List T} (h1 : t.k ≠ 0) (h2 : TB t) (h : Fin r) : Fin (t :: r):=by
 cases r with
 | nil => exact absurd h (by simp [Fin])
 | cons u s => exact ⟨h1,h2,h⟩
theorem Fin.app_ : ∀ {a r : List T},(∀ t ∈ a,t.k ≠ 0 /\ TB t) -> Fin r -> Fin (a ++ r)
 | [],r,_,h => h
 | t :: a,r,ha,h => Fin.cons_ (ha t (by simp)).1 (ha t (by simp)).2 (Fin.app_ (fun u hu => ha u (by simp [hu])) h)
theorem scan_fin (N : Nat) : ∀ (f : Nat) (l : List UInt8) (acc res : List T),Tk.scan N f l acc = .good res -> (∀ t ∈ acc,t.k ≠ 0 /\ TB t) -> Fin res
 | 0,l,acc,res,h,_ => by simp [Tk.scan] at h
 | f + 1,l,acc,res,h,ha => by
  rw [Tk.scan] at h
  split at h
  ·
   cases h
  ·
   rename_i k t n r hx
   have htb:=tok_tb (at_:=(N : Int) - (l.dropWhile Tk.blank).length) hx
   split at h
   ·
    rename_i hk
    injection h with h
    subst h
    exact Fin.app_ ha ⟨hk,htb⟩
   ·
    rename_i hk
    refine scan_fin N f r _ res h (fun u hu => ?_)
    rcases List.mem_append.1 hu with hu | hu
    ·
     exact ha u hu
    ·
     simp only [List.mem_cons,List.not_mem_nil,or_false] at hu
     subst hu
     exact ⟨hk,htb⟩
theorem scanA_fin {l : List UInt8} {res : List T} (h : Tk.scanA l = .good res) : Fin res:=by
 unfold Tk.scanA at h
 split at h
 ·
  cases h
 ·
  exact scan_fin _ _ _ _ _ h (fun t ht => by cases ht)
inductive PO where
 | tree (a : N)
 | err (at_ code : Int)
def fin : R -> PO
 | .bad q => .err (hd q).at_ 29
 | .ok a q => if (hd q).k ≠ 0 then .err (hd q).at_ 29 else if a.size > 4000 then .err 0 6 else if a.depth > 40 then .err 0 7 else .tree a
def Out (nt : NT) (src : List UInt8) (o : PO) : Prop:=match Tk.scanA src with
 | .bad a e => o = .err a e
 | .good l => ∃ r,Ev nt l r /\ o = fin r
end Sy
end Go.Proofs.YtgeppafcemeidaaGreatDoor
namespace Go.Proofs.YtgeppafcemeidaaGreatDoor
open Go.RowKit
open Sy (N NT R Ev Run Pg fx hd body opnd inf RunN EvN nd nmd)
open Tk (T)
open Sy (Fin TB)
attribute [local go_sem ↓] Tryz.field0 Tryz.field1
open Sy (PO Out)
def PPost (w : World) (o : PO) (e : Ending) (w' : World) : Prop:=match o with
 | .tree a => ∃ A c,e = .returned (ndV a.op a.nm a.n a.t A a.l.length c) /\ NA w' (fun b => w.heap.size <= b) (ndV a.op a.nm a.n a.t A a.l.length c) a /\ Below w.heap.size w w'
 | .err at_ code => e = .panicked [{ v:=.iface 40 (.agg #[.int .i64 at_,.int .i64 code]),recovered:=false }] /\ Below w.heap.size w w'
theorem pt_new {w : World} {b o c : Nat} {l : List T} (hr : ∀ i t,l[i]? = some t -> w.cell? ⟨b,o + i * 4,none⟩ = some (.int .i64 t.k) /\ w.cell? ⟨b,o + i * 4 + 1,none⟩ = some (.int .i64 t.at_) /\ w.cell? ⟨b,o + i * 4 + 2,none⟩ = some (.string (byS t.t)) /\ w.cell? ⟨b,o + i * 4 + 3,none⟩ = some (.int .i64 t.n))
  (hb : b < w.heap.size) (hf : Fin l) (hl : l.length <= 20000) (hc : l.length <= c) (hc2 : c <= 9223372036854775807) : Pt (w.alloc (.cells #[.slice (some ⟨b,o,none⟩) l.length c,.int .i64 0] 56)) w.heap.size l l:=by
 refine ⟨b,o,c,by rw [Nat.sub_self];exact heap_alloc_new w _,hb,fun i t hi => ?_,by rw [Nat.sub_self];rfl,hf,Nat.le_refl _,hl,hc,hc2⟩
 obtain ⟨q0,q1,q2,q3⟩:=hr i t hi
 have kk : ∀ {j : Nat} {u : Value},w.cell? ⟨b,j,none⟩ = some u -> (w.alloc (.cells #[.slice (some ⟨b,o,none⟩) l.length c,.int .i64 0] 56)).cell? ⟨b,j,none⟩ = some u:=fun hh => ((bl _).cell (World.block_lt_of_cell? _ _ hh)).trans hh
 exact ⟨kk q0,kk q1,kk q2,kk q3⟩
theorem parse_any (nt : NT) (K : Nat) (hnz : Sy.NZ nt) (hsl : Sy.sl nt <= 1) (hen : ∀ (args : Array Value) (W : World),(callFunc K args).run Tryz.prog W = .ok (.enter K args) W) (hCE : CE nt K) (s : ByteArray) (o : PO) (ho : Out nt s.data.toList o) (w : World) (hG : Good w) :
  Calls Tryz.prog 29 #[.string s,.func (.func K) #[] #[]] w (PPost w o):=by
 have HS:=hid (scan_any s (w.alloc zNode) (hG.below (bl _)))
 have hz : w.heap.size < (w.alloc zNode).heap.size:=by simp
 have HZ : Hid (Nb (w.alloc zNode) w.heap.size 0 [] 0 [] none 0 0):=Nb.zero
 have HB : Hid (Below w.heap.size w (w.alloc zNode)):=bl _
 unfold Out at ho
 clear hG
 cases hsc : Tk.scanA s.data.toList with
 | bad a e =>
  rw [hsc] at ho HS
  have ho : o = .err a e:=ho
  subst ho
  have he : (e != 0) = true:=by simpa using Tk.scanA_err hsc
  clear hsc
  go_enter Tryz.func29,Tryz.ntmps29
  go_wp2_with fail
  refine HS.out.mono ?_
  rintro e1 w1 ⟨rfl,hb1⟩
  have HB1:=hid (HB.out.trans (hb1.mono (Nat.le_of_lt hz)))
  clear hb1
  go_wp2_with fail
  exact ⟨rfl,rfl,HB1.out⟩
 | good l =>
  rw [hsc] at ho HS
  obtain ⟨r,hE,rfl⟩:=ho
  have hfin:=Sy.scanA_fin hsc
  have hcnt:=Tk.scanA_count hsc
  obtain ⟨n,hE⟩:=Sy.Run.toN hE
  have hsz:=Sy.ev_sz (Sy.EvN.ev hE)
  have hle:=Sy.ev_le (Sy.EvN.ev hE)
  have C:=hid (fun g W (hW : Pt W g l l) => hCE n l r hE g l W hW)
  clear hsc hE
  go_enter Tryz.func29,Tryz.ntmps29
  go_wp2_with fail
  refine HS.out.mono ?_
  rintro e1 w1 ⟨v,rfl,hown,hb1⟩
  obtain ⟨A,c,rfl,hc1,hc2,hrd⟩:=hown.rd
  rcases hrd with rfl | ⟨b,o,rfl,hrd⟩
  ·
   exact absurd hfin (by simp [Sy.Fin])
  have hbl : b < w1.heap.size:=by
   obtain ⟨t,s,rfl⟩:=hfin.ex
   exact World.block_lt_of_cell? _ _ (hrd 0 t rfl).1
  have HP : Hid (Pt (w1.alloc (.cells #[.slice (some ⟨b,o,none⟩) l.length c,.int .i64 0] 56)) w1.heap.size l l):=pt_new hrd hbl hfin (by omega) hc1 (by unfold maxLen at hc2;omega)
  replace HZ:=hid ((HZ.out.below hb1).below (bl (.cells #[.slice (some ⟨b,o,none⟩) l.length c,.int .i64 0] 56)))
  have hz1 : w.heap.size < w1.heap.size:=Nat.lt_of_lt_of_le hz hb1.size
  replace HB:=hid ((HB.out.trans (hb1.mono (Nat.le_of_lt hz))).trans ((bl (.cells #[.slice (some ⟨b,o,none⟩) l.length c,.int .i64 0] 56)).mono (Nat.le_of_lt hz1)))
  clear hown hb1 hrd HS hc1 hc2 hz
  have HC0:=hid (C.out _ _ HP.out)
  have hg1 : w1.heap.size < (w1.alloc (.cells #[.slice (some ⟨b,o,none⟩) l.length c,.int .i64 0] 56)).heap.size:=by simp
  cases r with
  | bad q =>
   go_wp2_with fail
   refine HC0.out.mono ?_
   intro e2 w2 hp
   obtain ⟨rfl,hc⟩:=hp
   have HB2:=hid (HB.out.trans (hc.below (Nat.le_of_lt hz1) (HB.out.size)))
   clear hc
   go_wp2_with fail
   exact ⟨rfl,rfl,HB2.out⟩
  | ok a q =>
   have hsa : a.size <= 16386:=by have:=hsz hnz;simp only at this;omega
   have hqn : q.length <= l.length:=hle
   clear hsz hle
   go_wp2_with fail
   refine HC0.out.mono ?_
   intro e2 w2 hp
   obtain ⟨Ax,cx,rfl,hna,hp,hc⟩:=hp
   have HB2:=hid (HB.out.trans (hc.below (Nat.le_of_lt hz1) (HB.out.size)))
   have HZ2:=hid (HZ.out.ch hc (by omega))
   have HNA:=hid (hna.more (S':=fun b => w.heap.size < b) (fun b hb _ => Nat.lt_of_lt_of_le HZ.out.lt hb))
   have HP2:=hid hp
   clear hc hna hp HC0 HB HZ HP
   unfold ndV
   have hz2:=HZ2.out.lt
   have hg2:=HP2.out.lt
   have hbx : Below w2.heap.size w2 (w2.alloc (.cells #[.int .i64 a.op,.string ⟨a.nm.toArray⟩,.int .i64 a.n,.string ⟨a.t.toArray⟩,.slice Ax a.l.length cx] 25)):=bl _
   have HN : Hid (Nb (w2.alloc (.cells #[.int .i64 a.op,.string ⟨a.nm.toArray⟩,.int .i64 a.n,.string ⟨a.t.toArray⟩,.slice Ax a.l.length cx] 25)) w2.heap.size a.op a.nm a.n a.t Ax a.l.length cx):=Nb.new
   replace HP2:=hid (HP2.out.below hbx)
   replace HB2:=hid (HB2.out.trans (hbx.mono (Nat.le_of_lt hz2)))
   replace HZ2:=hid (HZ2.out.below hbx)
   replace HNA:=hid (HNA.out.below hbx)
   clear hbx
   obtain ⟨u,z,rfl⟩:=HP2.out.fin.ex
   have CN1:=hid (next_any w1.heap.size l u z _ HP2.out)
   unfold tkV at CN1
   go_wp2_with fail
   refine CN1.out.mono ?_
   rintro e3 w3 ⟨rfl,hb3⟩
   have HP3:=hid (HP2.out.below hb3)
   have hsz2:=HZ2.out.lt
   have HB3:=hid (HB2.out.trans (hb3.mono (Nat.le_of_lt hsz2)))
   have HZ3:=hid (HZ2.out.below hb3)
   have HN3:=hid (HN.out.below hb3)
   have HNA3:=hid (HNA.out.below hb3)
   clear hb3 HP2 HB2 HZ2 HN HNA CN1 hsz2
   by_cases hk : u.k = 0
   ·
    have hbk : (u.k == 0) = true:=by simpa using hk
    have ho : Sy.fin (.ok a (u :: z)) = if a.size > 4000 then .err 0 6 else if a.depth > 40 then .err 0 7 else .tree a:=by
     simp only [Sy.fin];rw [if_neg (by simpa [Sy.hd] using hk)]
    have HO:=hid ho
    clear hk ho
    generalize Sy.fin (.ok a (u :: z)) = po at *
    go_wp2_with fail
    refine (require_yes w1.heap.size _).mono ?_
    rintro e4 w4 ⟨rfl,rfl⟩
    have hz3:=HZ3.out.lt
    have k0:=HN3.out.c0
    have k1:=HN3.out.c1
    have k2:=HN3.out.c2
    have k3:=HN3.out.c3
    have k4:=HN3.out.c4
    have CS:=hid (size_any a.size a (ndV a.op a.nm a.n a.t Ax a.l.length cx) w3 _ (Nat.le_refl _) (by omega) HNA3.out)
    have hd0:=Sy.N.depth_le_size a
    unfold ndV at CS
    go_wp2_with fail
    refine CS.out.mono ?_
    rintro e5 w5 ⟨rfl,hb5⟩
    have HB5:=hid (HB3.out.trans (hb5.mono (Nat.le_of_lt hz3)))
    have HZ5:=hid (HZ3.out.below hb5)
    have HN5:=hid (HN3.out.below hb5)
    have HNA5:=hid (HNA3.out.below hb5)
    clear hb5 HB3 HZ3 HN3 HNA3 k0 k1 k2 k3 k4 hz3
    by_cases hs : a.size > 4000
    ·
     rw [if_pos hs] at HO
     have hs1 : (4000 : Int) < (a.size : Int):=by omega
     have HO':=HO.out
     clear HO
     go_wp2_with fail
     try rw [HO']
     exact ⟨rfl,rfl,HB5.out⟩
    ·
     rw [if_neg hs] at HO
     have hs1 : ¬ (4000 : Int) < (a.size : Int):=by omega
     have hz5:=HZ5.out.lt
     have k0:=HN5.out.c0
     have k1:=HN5.out.c1
     have k2:=HN5.out.c2
     have k3:=HN5.out.c3
     have k4:=HN5.out.c4
     have CD:=hid (depth_any a.size a (ndV a.op a.nm a.n a.t Ax a.l.length cx) w5 _ (Nat.le_refl _) (by omega) HNA5.out)
     unfold ndV at CD
     go_wp2_with fail
     refine CD.out.mono ?_
     rintro e6 w6 ⟨rfl,hb6⟩
     have HB6:=hid (HB5.out.trans (hb6.mono (Nat.le_of_lt hz5)))
     have HZ6:=hid (HZ5.out.below hb6)
     have HN6:=hid (HN5.out.below hb6)
     have HNA6:=hid (HNA5.out.below hb6)
     clear hb6 HB5 HZ5 HN5 HNA5 k0 k1 k2 k3 k4 hz5
     by_cases hd : a.depth > 40
     ·
      rw [if_pos hd] at HO
      have hd1 : (40 : Int) < (a.depth : Int):=by omega
      have HO':=HO.out
      clear HO
      go_wp2_with fail
      try rw [HO']
      exact ⟨rfl,rfl,HB6.out⟩
     ·
      rw [if_neg hd] at HO
      have hd1 : ¬ (40 : Int) < (a.depth : Int):=by omega
      have k0:=HN6.out.c0
      have k1:=HN6.out.c1
      have k2:=HN6.out.c2
      have k3:=HN6.out.c3
      have k4:=HN6.out.c4
      have z0:=HZ6.out.c0
      have z1:=HZ6.out.c1
      have z2:=HZ6.out.c2
      have z3:=HZ6.out.c3
      have z4:=HZ6.out.c4
      have f0:=HZ6.out.free 0
      have f1:=HZ6.out.free 1
      have f2:=HZ6.out.free 2
      have f3:=HZ6.out.free 3
      have f4:=HZ6.out.free 4
      have G:=st5 w6 w.heap.size (.int .i64 a.op) (.string ⟨a.nm.toArray⟩) (.int .i64 a.n) (.string ⟨a.t.toArray⟩) (.slice Ax a.l.length cx)
      have GA:=HNA6.out.ch G (by simp)
      have GB:=HB6.out.trans (Ch.below G (Nat.le_refl _) HB6.out.size)
      have HG:=hid (And.intro GA GB)
      have HO':=HO.out
      clear HO G GA GB
      go_wp2_with fail
      refine bodyPost_ret (v:=ndV a.op a.nm a.n a.t Ax a.l.length cx) (by simp [results,Tryz.results29,go_sem,ndV,z0,z1,z2,z3,z4,f0,f1,f2,f3,f4]) rfl ?_
      try rw [HO']
      exact ⟨Ax,cx,rfl,HG.out.1.more (fun b hb _ => Nat.le_of_lt hb),HG.out.2⟩
   ·
    have hbk : (u.k == 0) = false:=by simpa using hk
    have ho : Sy.fin (.ok a (u :: z)) = .err u.at_ 29:=by
     simp only [Sy.fin];rw [if_pos (by simpa [Sy.hd] using hk)];rfl
    have CR:=hid (require_no w1.heap.size l u z w3 HP3.out)
    have hz3:=HZ3.out.lt
    clear hk
    go_wp2_with fail
    refine CR.out.mono ?_
    rintro e4 w4 ⟨rfl,hb4⟩
    have HB4:=hid (HB3.out.trans (hb4.mono (Nat.le_of_lt hz3)))
    clear hb4
    have HO:=hid ho
    clear ho
    go_wp2_with fail
    try rw [HO.out]
    exact ⟨rfl,rfl,HB4.out⟩
end Go.Proofs.YtgeppafcemeidaaGreatDoor
namespace Go.Proofs.YtgeppafcemeidaaGreatDoor
open Go.RowKit
open Sy (N NT R Ev Run Pg fx hd body opnd inf RunN EvN nd nmd PO Out)
open Tk (T)
theorem Tryz.ta_hit (v : Value) (w : World) : (Instr.typeAssert (.iface 40 v) 20 40 true).run Tryz.prog w = .ok (.tuple #[v,.bool true]) w:=by kernel_rfl
theorem Tryz.ta_nil (w : World) : (Instr.typeAssert .nilIface 20 40 true).run Tryz.prog w = .ok (.tuple #[.agg #[.int .i64 0,.int .i64 0],.bool false]) w:=by kernel_rfl
theorem pr_end {w : World} {b1 b2 b3 : Nat} {at_ code : Int} {t2 t3 : TypeId} (h1 : Nb w b1 0 [] 0 [] none 0 0) (h2 : w.heap[b2]? = some (.cells #[.int .i64 0] t2 (0,0))) (h3 : w.heap[b3]? = some (.cells #[.int .i64 0] t3 (0,0))) (h12 : b1 < b2) (h23 : b2 < b3) (o : Obj) (W : World)
  (hW : W = ((((((((w.setCell ⟨b1,0,none⟩ (.int .i64 0)).setCell ⟨b1,1,none⟩ (.string ⟨#[]⟩)).setCell ⟨b1,2,none⟩ (.int .i64 0)).setCell ⟨b1,3,none⟩ (.string ⟨#[]⟩)).setCell ⟨b1,4,none⟩ (.slice none 0 0)).setCell ⟨b2,0,none⟩ (.int .i64 at_)).setCell ⟨b3,0,none⟩ (.int .i64 code)).alloc o).drew) :
  Nb W b1 0 [] 0 [] none 0 0 /\ W.cell? ⟨b2,0,none⟩ = some (.int .i64 at_) /\ W.cell? ⟨b3,0,none⟩ = some (.int .i64 code) /\ Below b1 w W:=by
 subst hW
 have G1:=st5 w b1 (.int .i64 0) (.string ⟨#[]⟩) (.int .i64 0) (.string ⟨#[]⟩) (.slice none 0 0)
 have N1:=h1.st5 (op':=0) (s':=[]) (n':=0) (t':=[]) (A':=none) (m':=0) (c':=0)
 have hl:=h1.lt
 generalize ((((w.setCell ⟨b1,0,none⟩ (.int .i64 0)).setCell ⟨b1,1,none⟩ (.string ⟨#[]⟩)).setCell ⟨b1,2,none⟩ (.int .i64 0)).setCell ⟨b1,3,none⟩ (.string ⟨#[]⟩)).setCell ⟨b1,4,none⟩ (.slice none 0 0) = w5 at *
 have q2:=G1.obj h2 (by omega)
 have q3:=G1.obj h3 (by omega)
 have G2:=Ch.set w5 b2 0 (.int .i64 at_)
 have r2:=heap_set (i:=0) (u:=.int .i64 at_) q2
 have r3:=G2.obj q3 (by omega)
 have N2:=N1.ch G2 (by omega)
 generalize w5.setCell ⟨b2,0,none⟩ (.int .i64 at_) = w6 at *
 have G3:=Ch.set w6 b3 0 (.int .i64 code)
 have s3:=heap_set (i:=0) (u:=.int .i64 code) r3
 have s2:=G3.obj r2 (by omega)
 have N3:=N2.ch G3 (by omega)
 generalize w6.setCell ⟨b3,0,none⟩ (.int .i64 code) = w7 at *
 have hb : Below w7.heap.size w7 (w7.alloc o).drew:=below_alloc_drew o
 have c2 : w7.cell? ⟨b2,0,none⟩ = some (.int .i64 at_):=by have:=cellAt s2 0;simpa using this
 have c3 : w7.cell? ⟨b3,0,none⟩ = some (.int .i64 code):=by have:=cellAt s3 0;simpa using this
 have B1 : Below b1 w w7:=((G1.below (Nat.le_refl _) (Nat.le_of_lt hl)).trans (G2.below (Nat.le_of_lt h12) (Nat.le_trans (Nat.le_of_lt hl) G1.size))).trans (G3.below (by omega) (Nat.le_trans (Nat.le_trans (Nat.le_of_lt hl) G1.size) G2.size))
 exact ⟨N3.below hb,(hb.cell (World.block_lt_of_cell? _ _ c2)).trans c2,(hb.cell (World.block_lt_of_cell? _ _ c3)).trans c3,B1.trans (hb.mono (Nat.le_trans (Nat.le_of_lt hl) B1.size))⟩
theorem catch_idle_Parse (p q r : Addr) (w : World) :
  CallsD Tryz.prog 28 #[.pointer (some p),.pointer (some q),.pointer (some r)] .returning w fun e u' w' => e = .returned (.tuple #[]) /\ u' = .returning /\ Below w.heap.size w w':=by
 refine callsD_of_wpS Tryz.func28 rfl fun c₀ cs hu => ?_
 have hbl:=bl (w:=w) (.cells #[.int .i64 0,.int .i64 0] 40)
 apply wpS_seq
 apply wpS_region
 simp [wpOpsS,go_sem,recoverD,hu,Tryz.ntmps28,Exit.thenS,↓Tryz.ta_nil,↓Tryz.ta_hit]
 apply wpS_seq
 apply wpS_region
 simp [wpOpsS,go_sem,Exit.thenS]
 refine wpS_cond (t:=false) (by simp [Act.eval,Array.replicate]) ?_
 simp only [Bool.false_eq_true,if_false]
 refine wpS_of_wp (wp_skip ?_)
 cases c₀
 simp_all [bodyPostS,results,Tryz.results28]
theorem catch_panic_Parse (b1 b2 b3 : Nat) (h12 : b1 < b2) (h23 : b2 < b3) (at_ code : Int) (older : List PanicEntry) (w : World) (h1 : Nb w b1 0 [] 0 [] none 0 0) (h2 : w.heap[b2]? = some (.cells #[.int .i64 0] 3 (0,0))) (h3 : w.heap[b3]? = some (.cells #[.int .i64 0] 26 (0,0))) :
  CallsD Tryz.prog 28 #[.pointer (some ⟨b1,0,none⟩),.pointer (some ⟨b2,0,none⟩),.pointer (some ⟨b3,0,none⟩)] (.panicking ({ v:=.iface 40 (.agg #[.int .i64 at_,.int .i64 code]),recovered:=false } :: older)) w fun e u' w' => e = .returned (.tuple #[]) /\ u' = .panicking ({ v:=.iface 40 (.agg #[.int .i64 at_,.int .i64 code]),recovered:=true } :: older) /\
   Nb w' b1 0 [] 0 [] none 0 0 /\ w'.cell? ⟨b2,0,none⟩ = some (.int .i64 at_) /\ w'.cell? ⟨b3,0,none⟩ = some (.int .i64 code) /\ Below b1 w w':=by
 have hl3 : b3 < w.heap.size:=(Array.getElem?_eq_some_iff.1 h3).1
 have hl1 : b1 < w.heap.size:=by omega
 have hl2 : b2 < w.heap.size:=by omega
 have h13 : b1 < b3:=by omega
 have k0:=h1.c0
 have k1:=h1.c1
 have k2:=h1.c2
 have k3:=h1.c3
 have k4:=h1.c4
 have f0:=h1.free 0
 have f1:=h1.free 1
 have f2:=h1.free 2
 have f3:=h1.free 3
 have f4:=h1.free 4
 have q0 : w.cell? ⟨b2,0,none⟩ = some (.int .i64 0):=by have:=cellAt h2 0;simpa using this
 have qf : w.frozen? ⟨b2,0,none⟩ = false:=freeAt h2 0
 have r0 : w.cell? ⟨b3,0,none⟩ = some (.int .i64 0):=by have:=cellAt h3 0;simpa using this
 have rf : w.frozen? ⟨b3,0,none⟩ = false:=freeAt h3 0
 have H1:=hid h1
 have H2:=hid h2
 have H3:=hid h3
 clear h1 h2 h3
 refine callsD_of_wpS Tryz.func28 rfl fun c₀ cs hu => ?_
 apply wpS_seq
 apply wpS_region
 simp [wpOpsS,go_sem,recoverD,hu,Tryz.ntmps28,Exit.thenS,↓Tryz.ta_nil,↓Tryz.ta_hit]
 apply wpS_seq
 apply wpS_region
 simp [wpOpsS,go_sem,Exit.thenS]
 refine wpS_cond (t:=true) (by simp [Act.eval,Array.replicate]) ?_
 simp only [if_true]
 refine wpS_of_wp ?_
 have hA : (w.alloc (.cells #[.int .i64 at_,.int .i64 code] 40)).drew.cell? ⟨w.heap.size,0,none⟩ = some (.int .i64 at_):=by rw [show (w.alloc (.cells #[.int .i64 at_,.int .i64 code] 40)).drew.cell? ⟨w.heap.size,0,none⟩ = (w.alloc (.cells #[.int .i64 at_,.int .i64 code] 40)).cell? ⟨w.heap.size,0,none⟩ from rfl,World.cell?_alloc_mark];rfl
 have hB : (w.alloc (.cells #[.int .i64 at_,.int .i64 code] 40)).drew.cell? ⟨w.heap.size,1,none⟩ = some (.int .i64 code):=by rw [show (w.alloc (.cells #[.int .i64 at_,.int .i64 code] 40)).drew.cell? ⟨w.heap.size,1,none⟩ = (w.alloc (.cells #[.int .i64 at_,.int .i64 code] 40)).cell? ⟨w.heap.size,1,none⟩ from rfl,World.cell?_alloc_mark];rfl
 rw [show Array.replicate 13 undef = #[undef,undef,undef,undef,undef,undef,undef,undef,undef,undef,undef,undef,undef] from rfl]
 simp only [List.setIfInBounds_toArray,List.set_cons_zero,List.set_cons_succ,List.append_toArray,List.cons_append,List.nil_append]
 refine wp_region_any (by kernel_rfl) ?_
 change wpAny _ _ _ _ _ _ _ (World.drew _)
 refine wpAny_take (i:=0) (v:=?_) rfl (by kernel_rfl) (by kernel_rfl) (by kernel_rfl) (fun _ _ _ h => h) (Or.inl ⟨by rfl,?_⟩) ?_
 rotate_left
 ·
  intro w;go_simp
  first | done | with_reducible rfl
 try simp only [Act.put,y1,y2,y3,y4,y5,y6]
 refine wpAny_take (i:=1) (v:=?_) rfl (by kernel_rfl) (by kernel_rfl) (by kernel_rfl) (fun _ _ _ h => h) (Or.inl ⟨by rfl,?_⟩) ?_
 rotate_left
 ·
  intro w;go_simp
  first | done | with_reducible rfl
 try simp only [Act.put,y1,y2,y3,y4,y5,y6]
 refine wpAny_take (i:=3) (v:=?_) rfl (by kernel_rfl) (by kernel_rfl) (by kernel_rfl) (fun _ _ _ h => h) (Or.inl ⟨by rfl,?_⟩) ?_
 rotate_left
 ·
  intro w;go_simp
  first | done | with_reducible rfl
 try simp only [Act.put,y1,y2,y3,y4,y5,y6]
 refine wpAny_ready (rs:=[2,4,5]) (by kernel_rfl) (by simp) ?_
 refine AllReady.cons rfl (fun K hK => ?_) ?_
 ·
  go_simp
  refine hK _ _ ?_
  clear hK K
  try simp only [Act.put,y1,y2,y3,y4,y5,y6]
  refine wpAny_ready (rs:=[4,5]) (by kernel_rfl) (by simp) ?_
  refine AllReady.cons rfl (fun K hK => ?_) ?_
  ·
   go_simp
   refine hK _ _ ?_
   clear hK K
   try simp only [Act.put,y1,y2,y3,y4,y5,y6]
   refine wpAny_ready (rs:=[5]) (by kernel_rfl) (by simp) ?_
   refine AllReady.cons rfl (fun K hK => ?_) AllReady.nil
   go_simp
   refine hK _ _ ?_
   clear hK K
   try simp only [Act.put,y1,y2,y3,y4,y5,y6]
   refine wpAny_ready (rs:=[6]) (by kernel_rfl) (by simp) ?_
   refine AllReady.cons rfl (fun K hK => ?_) AllReady.nil
   go_simp
   refine hK _ _ ?_
   clear hK K
   try simp only [Act.put,y1,y2,y3,y4,y5,y6]
   refine wpAny_ready (rs:=[7]) (by kernel_rfl) (by simp) ?_
   refine AllReady.cons rfl (fun K hK => ?_) AllReady.nil
   go_simp
   refine hK _ _ ?_
   clear hK K
   try simp only [Act.put,y1,y2,y3,y4,y5,y6]
   refine wpAny_done (by kernel_rfl) ?_ _
   exact ⟨rfl,_,rfl,.tuple #[],by simp [results,Tryz.results28],rfl,rfl,pr_end H1.out H2.out H3.out h12 h23 _ _ rfl⟩
  refine AllReady.cons rfl (fun K hK => ?_) AllReady.nil
  go_simp
  refine hK _ _ ?_
  clear hK K
  try simp only [Act.put,y1,y2,y3,y4,y5,y6]
  refine wpAny_ready (rs:=[4,6]) (by kernel_rfl) (by simp) ?_
  refine AllReady.cons rfl (fun K hK => ?_) ?_
  ·
   go_simp
   refine hK _ _ ?_
   clear hK K
   try simp only [Act.put,y1,y2,y3,y4,y5,y6]
   refine wpAny_ready (rs:=[6]) (by kernel_rfl) (by simp) ?_
   refine AllReady.cons rfl (fun K hK => ?_) AllReady.nil
   go_simp
   refine hK _ _ ?_
   clear hK K
   try simp only [Act.put,y1,y2,y3,y4,y5,y6]
   refine wpAny_ready (rs:=[7]) (by kernel_rfl) (by simp) ?_
   refine AllReady.cons rfl (fun K hK => ?_) AllReady.nil
   go_simp
   refine hK _ _ ?_
   clear hK K
   try simp only [Act.put,y1,y2,y3,y4,y5,y6]
   refine wpAny_done (by kernel_rfl) ?_ _
   exact ⟨rfl,_,rfl,.tuple #[],by simp [results,Tryz.results28],rfl,rfl,pr_end H1.out H2.out H3.out h12 h23 _ _ rfl⟩
  refine AllReady.cons rfl (fun K hK => ?_) AllReady.nil
  go_simp
  refine hK _ _ ?_
  clear hK K
  try simp only [Act.put,y1,y2,y3,y4,y5,y6]
  refine wpAny_ready (rs:=[4]) (by kernel_rfl) (by simp) ?_
  refine AllReady.cons rfl (fun K hK => ?_) AllReady.nil
  go_simp
  refine hK _ _ ?_
  clear hK K
  try simp only [Act.put,y1,y2,y3,y4,y5,y6]
  refine wpAny_ready (rs:=[7]) (by kernel_rfl) (by simp) ?_
  refine AllReady.cons rfl (fun K hK => ?_) AllReady.nil
  go_simp
  refine hK _ _ ?_
  clear hK K
  try simp only [Act.put,y1,y2,y3,y4,y5,y6]
  refine wpAny_done (by kernel_rfl) ?_ _
  exact ⟨rfl,_,rfl,.tuple #[],by simp [results,Tryz.results28],rfl,rfl,pr_end H1.out H2.out H3.out h12 h23 _ _ rfl⟩
 refine AllReady.cons rfl (fun K hK => ?_) ?_
 ·
  go_simp
  refine hK _ _ ?_
  clear hK K
  try simp only [Act.put,y1,y2,y3,y4,y5,y6]
  refine wpAny_ready (rs:=[2,5]) (by kernel_rfl) (by simp) ?_
  refine AllReady.cons rfl (fun K hK => ?_) ?_
  ·
   go_simp
   refine hK _ _ ?_
   clear hK K
   try simp only [Act.put,y1,y2,y3,y4,y5,y6]
   refine wpAny_ready (rs:=[5]) (by kernel_rfl) (by simp) ?_
   refine AllReady.cons rfl (fun K hK => ?_) AllReady.nil
   go_simp
   refine hK _ _ ?_
   clear hK K
   try simp only [Act.put,y1,y2,y3,y4,y5,y6]
   refine wpAny_ready (rs:=[6]) (by kernel_rfl) (by simp) ?_
   refine AllReady.cons rfl (fun K hK => ?_) AllReady.nil
   go_simp
   refine hK _ _ ?_
   clear hK K
   try simp only [Act.put,y1,y2,y3,y4,y5,y6]
   refine wpAny_ready (rs:=[7]) (by kernel_rfl) (by simp) ?_
   refine AllReady.cons rfl (fun K hK => ?_) AllReady.nil
   go_simp
   refine hK _ _ ?_
   clear hK K
   try simp only [Act.put,y1,y2,y3,y4,y5,y6]
   refine wpAny_done (by kernel_rfl) ?_ _
   exact ⟨rfl,_,rfl,.tuple #[],by simp [results,Tryz.results28],rfl,rfl,pr_end H1.out H2.out H3.out h12 h23 _ _ rfl⟩
  refine AllReady.cons rfl (fun K hK => ?_) AllReady.nil
  go_simp
  refine hK _ _ ?_
  clear hK K
  try simp only [Act.put,y1,y2,y3,y4,y5,y6]
  refine wpAny_ready (rs:=[2]) (by kernel_rfl) (by simp) ?_
  refine AllReady.cons rfl (fun K hK => ?_) AllReady.nil
  go_simp
  refine hK _ _ ?_
  clear hK K
  try simp only [Act.put,y1,y2,y3,y4,y5,y6]
  refine wpAny_ready (rs:=[6]) (by kernel_rfl) (by simp) ?_
  refine AllReady.cons rfl (fun K hK => ?_) AllReady.nil
  go_simp
  refine hK _ _ ?_
  clear hK K
  try simp only [Act.put,y1,y2,y3,y4,y5,y6]
  refine wpAny_ready (rs:=[7]) (by kernel_rfl) (by simp) ?_
  refine AllReady.cons rfl (fun K hK => ?_) AllReady.nil
  go_simp
  refine hK _ _ ?_
  clear hK K
  try simp only [Act.put,y1,y2,y3,y4,y5,y6]
  refine wpAny_done (by kernel_rfl) ?_ _
  exact ⟨rfl,_,rfl,.tuple #[],by simp [results,Tryz.results28],rfl,rfl,pr_end H1.out H2.out H3.out h12 h23 _ _ rfl⟩
 refine AllReady.cons rfl (fun K hK => ?_) AllReady.nil
 go_simp
 refine hK _ _ ?_
 clear hK K
 try simp only [Act.put,y1,y2,y3,y4,y5,y6]
 refine wpAny_ready (rs:=[2,4]) (by kernel_rfl) (by simp) ?_
 refine AllReady.cons rfl (fun K hK => ?_) ?_
 ·
  go_simp
  refine hK _ _ ?_
  clear hK K
  try simp only [Act.put,y1,y2,y3,y4,y5,y6]
  refine wpAny_ready (rs:=[4,6]) (by kernel_rfl) (by simp) ?_
  refine AllReady.cons rfl (fun K hK => ?_) ?_
  ·
   go_simp
   refine hK _ _ ?_
   clear hK K
   try simp only [Act.put,y1,y2,y3,y4,y5,y6]
   refine wpAny_ready (rs:=[6]) (by kernel_rfl) (by simp) ?_
   refine AllReady.cons rfl (fun K hK => ?_) AllReady.nil
   go_simp
   refine hK _ _ ?_
   clear hK K
   try simp only [Act.put,y1,y2,y3,y4,y5,y6]
   refine wpAny_ready (rs:=[7]) (by kernel_rfl) (by simp) ?_
   refine AllReady.cons rfl (fun K hK => ?_) AllReady.nil
   go_simp
   refine hK _ _ ?_
   clear hK K
   try simp only [Act.put,y1,y2,y3,y4,y5,y6]
   refine wpAny_done (by kernel_rfl) ?_ _
   exact ⟨rfl,_,rfl,.tuple #[],by simp [results,Tryz.results28],rfl,rfl,pr_end H1.out H2.out H3.out h12 h23 _ _ rfl⟩
  refine AllReady.cons rfl (fun K hK => ?_) AllReady.nil
  go_simp
  refine hK _ _ ?_
  clear hK K
  try simp only [Act.put,y1,y2,y3,y4,y5,y6]
  refine wpAny_ready (rs:=[4]) (by kernel_rfl) (by simp) ?_
  refine AllReady.cons rfl (fun K hK => ?_) AllReady.nil
  go_simp
  refine hK _ _ ?_
  clear hK K
  try simp only [Act.put,y1,y2,y3,y4,y5,y6]
  refine wpAny_ready (rs:=[7]) (by kernel_rfl) (by simp) ?_
  refine AllReady.cons rfl (fun K hK => ?_) AllReady.nil
  go_simp
  refine hK _ _ ?_
  clear hK K
  try simp only [Act.put,y1,y2,y3,y4,y5,y6]
  refine wpAny_done (by kernel_rfl) ?_ _
  exact ⟨rfl,_,rfl,.tuple #[],by simp [results,Tryz.results28],rfl,rfl,pr_end H1.out H2.out H3.out h12 h23 _ _ rfl⟩
 refine AllReady.cons rfl (fun K hK => ?_) AllReady.nil
 go_simp
 refine hK _ _ ?_
 clear hK K
 try simp only [Act.put,y1,y2,y3,y4,y5,y6]
 refine wpAny_ready (rs:=[2]) (by kernel_rfl) (by simp) ?_
 refine AllReady.cons rfl (fun K hK => ?_) AllReady.nil
 go_simp
 refine hK _ _ ?_
 clear hK K
 try simp only [Act.put,y1,y2,y3,y4,y5,y6]
 refine wpAny_ready (rs:=[6]) (by kernel_rfl) (by simp) ?_
 refine AllReady.cons rfl (fun K hK => ?_) AllReady.nil
 go_simp
 refine hK _ _ ?_
 clear hK K
 try simp only [Act.put,y1,y2,y3,y4,y5,y6]
 refine wpAny_ready (rs:=[7]) (by kernel_rfl) (by simp) ?_
 refine AllReady.cons rfl (fun K hK => ?_) AllReady.nil
 go_simp
 refine hK _ _ ?_
 clear hK K
 try simp only [Act.put,y1,y2,y3,y4,y5,y6]
 refine wpAny_done (by kernel_rfl) ?_ _
 exact ⟨rfl,_,rfl,.tuple #[],by simp [results,Tryz.results28],rfl,rfl,pr_end H1.out H2.out H3.out h12 h23 _ _ rfl⟩
theorem catch_idle_Expr (p q r : Addr) (w : World) :
  CallsD Tryz.prog 34 #[.pointer (some p),.pointer (some q),.pointer (some r)] .returning w fun e u' w' => e = .returned (.tuple #[]) /\ u' = .returning /\ Below w.heap.size w w':=by
 refine callsD_of_wpS Tryz.func34 rfl fun c₀ cs hu => ?_
 have hbl:=bl (w:=w) (.cells #[.int .i64 0,.int .i64 0] 40)
 apply wpS_seq
 apply wpS_region
 simp [wpOpsS,go_sem,recoverD,hu,Tryz.ntmps34,Exit.thenS,↓Tryz.ta_nil,↓Tryz.ta_hit]
 apply wpS_seq
 apply wpS_region
 simp [wpOpsS,go_sem,Exit.thenS]
 refine wpS_cond (t:=false) (by simp [Act.eval,Array.replicate]) ?_
 simp only [Bool.false_eq_true,if_false]
 refine wpS_of_wp (wp_skip ?_)
 cases c₀
 simp_all [bodyPostS,results,Tryz.results34]
theorem catch_panic_Expr (b1 b2 b3 : Nat) (h12 : b1 < b2) (h23 : b2 < b3) (at_ code : Int) (older : List PanicEntry) (w : World) (h1 : Nb w b1 0 [] 0 [] none 0 0) (h2 : w.heap[b2]? = some (.cells #[.int .i64 0] 3 (0,0))) (h3 : w.heap[b3]? = some (.cells #[.int .i64 0] 26 (0,0))) :
  CallsD Tryz.prog 34 #[.pointer (some ⟨b1,0,none⟩),.pointer (some ⟨b2,0,none⟩),.pointer (some ⟨b3,0,none⟩)] (.panicking ({ v:=.iface 40 (.agg #[.int .i64 at_,.int .i64 code]),recovered:=false } :: older)) w fun e u' w' => e = .returned (.tuple #[]) /\ u' = .panicking ({ v:=.iface 40 (.agg #[.int .i64 at_,.int .i64 code]),recovered:=true } :: older) /\
   Nb w' b1 0 [] 0 [] none 0 0 /\ w'.cell? ⟨b2,0,none⟩ = some (.int .i64 at_) /\ w'.cell? ⟨b3,0,none⟩ = some (.int .i64 code) /\ Below b1 w w':=by
 have hl3 : b3 < w.heap.size:=(Array.getElem?_eq_some_iff.1 h3).1
 have hl1 : b1 < w.heap.size:=by omega
 have hl2 : b2 < w.heap.size:=by omega
 have h13 : b1 < b3:=by omega
 have k0:=h1.c0
 have k1:=h1.c1
 have k2:=h1.c2
 have k3:=h1.c3
 have k4:=h1.c4
 have f0:=h1.free 0
 have f1:=h1.free 1
 have f2:=h1.free 2
 have f3:=h1.free 3
 have f4:=h1.free 4
 have q0 : w.cell? ⟨b2,0,none⟩ = some (.int .i64 0):=by have:=cellAt h2 0;simpa using this
 have qf : w.frozen? ⟨b2,0,none⟩ = false:=freeAt h2 0
 have r0 : w.cell? ⟨b3,0,none⟩ = some (.int .i64 0):=by have:=cellAt h3 0;simpa using this
 have rf : w.frozen? ⟨b3,0,none⟩ = false:=freeAt h3 0
 have H1:=hid h1
 have H2:=hid h2
 have H3:=hid h3
 clear h1 h2 h3
 refine callsD_of_wpS Tryz.func34 rfl fun c₀ cs hu => ?_
 apply wpS_seq
 apply wpS_region
 simp [wpOpsS,go_sem,recoverD,hu,Tryz.ntmps34,Exit.thenS,↓Tryz.ta_nil,↓Tryz.ta_hit]
 apply wpS_seq
 apply wpS_region
 simp [wpOpsS,go_sem,Exit.thenS]
 refine wpS_cond (t:=true) (by simp [Act.eval,Array.replicate]) ?_
 simp only [if_true]
 refine wpS_of_wp ?_
 have hA : (w.alloc (.cells #[.int .i64 at_,.int .i64 code] 40)).drew.cell? ⟨w.heap.size,0,none⟩ = some (.int .i64 at_):=by rw [show (w.alloc (.cells #[.int .i64 at_,.int .i64 code] 40)).drew.cell? ⟨w.heap.size,0,none⟩ = (w.alloc (.cells #[.int .i64 at_,.int .i64 code] 40)).cell? ⟨w.heap.size,0,none⟩ from rfl,World.cell?_alloc_mark];rfl
 have hB : (w.alloc (.cells #[.int .i64 at_,.int .i64 code] 40)).drew.cell? ⟨w.heap.size,1,none⟩ = some (.int .i64 code):=by rw [show (w.alloc (.cells #[.int .i64 at_,.int .i64 code] 40)).drew.cell? ⟨w.heap.size,1,none⟩ = (w.alloc (.cells #[.int .i64 at_,.int .i64 code] 40)).cell? ⟨w.heap.size,1,none⟩ from rfl,World.cell?_alloc_mark];rfl
 rw [show Array.replicate 13 undef = #[undef,undef,undef,undef,undef,undef,undef,undef,undef,undef,undef,undef,undef] from rfl]
 simp only [List.setIfInBounds_toArray,List.set_cons_zero,List.set_cons_succ,List.append_toArray,List.cons_append,List.nil_append]
 refine wp_region_any (by kernel_rfl) ?_
 change wpAny _ _ _ _ _ _ _ (World.drew _)
 refine wpAny_take (i:=0) (v:=?_) rfl (by kernel_rfl) (by kernel_rfl) (by kernel_rfl) (fun _ _ _ h => h) (Or.inl ⟨by rfl,?_⟩) ?_
 rotate_left
 ·
  intro w;go_simp
  first | done | with_reducible rfl
 try simp only [Act.put,y1,y2,y3,y4,y5,y6]
 refine wpAny_take (i:=1) (v:=?_) rfl (by kernel_rfl) (by kernel_rfl) (by kernel_rfl) (fun _ _ _ h => h) (Or.inl ⟨by rfl,?_⟩) ?_
 rotate_left
 ·
  intro w;go_simp
  first | done | with_reducible rfl
 try simp only [Act.put,y1,y2,y3,y4,y5,y6]
 refine wpAny_take (i:=3) (v:=?_) rfl (by kernel_rfl) (by kernel_rfl) (by kernel_rfl) (fun _ _ _ h => h) (Or.inl ⟨by rfl,?_⟩) ?_
 rotate_left
 ·
  intro w;go_simp
  first | done | with_reducible rfl
 try simp only [Act.put,y1,y2,y3,y4,y5,y6]
 refine wpAny_ready (rs:=[2,4,5]) (by kernel_rfl) (by simp) ?_
 refine AllReady.cons rfl (fun K hK => ?_) ?_
 ·
  go_simp
  refine hK _ _ ?_
  clear hK K
  try simp only [Act.put,y1,y2,y3,y4,y5,y6]
  refine wpAny_ready (rs:=[4,5]) (by kernel_rfl) (by simp) ?_
  refine AllReady.cons rfl (fun K hK => ?_) ?_
  ·
   go_simp
   refine hK _ _ ?_
   clear hK K
   try simp only [Act.put,y1,y2,y3,y4,y5,y6]
   refine wpAny_ready (rs:=[5]) (by kernel_rfl) (by simp) ?_
   refine AllReady.cons rfl (fun K hK => ?_) AllReady.nil
   go_simp
   refine hK _ _ ?_
   clear hK K
   try simp only [Act.put,y1,y2,y3,y4,y5,y6]
   refine wpAny_ready (rs:=[6]) (by kernel_rfl) (by simp) ?_
   refine AllReady.cons rfl (fun K hK => ?_) AllReady.nil
   go_simp
   refine hK _ _ ?_
   clear hK K
   try simp only [Act.put,y1,y2,y3,y4,y5,y6]
   refine wpAny_ready (rs:=[7]) (by kernel_rfl) (by simp) ?_
   refine AllReady.cons rfl (fun K hK => ?_) AllReady.nil
   go_simp
   refine hK _ _ ?_
   clear hK K
   try simp only [Act.put,y1,y2,y3,y4,y5,y6]
   refine wpAny_done (by kernel_rfl) ?_ _
   exact ⟨rfl,_,rfl,.tuple #[],by simp [results,Tryz.results34],rfl,rfl,pr_end H1.out H2.out H3.out h12 h23 _ _ rfl⟩
  refine AllReady.cons rfl (fun K hK => ?_) AllReady.nil
  go_simp
  refine hK _ _ ?_
  clear hK K
  try simp only [Act.put,y1,y2,y3,y4,y5,y6]
  refine wpAny_ready (rs:=[4,6]) (by kernel_rfl) (by simp) ?_
  refine AllReady.cons rfl (fun K hK => ?_) ?_
  ·
   go_simp
   refine hK _ _ ?_
   clear hK K
   try simp only [Act.put,y1,y2,y3,y4,y5,y6]
   refine wpAny_ready (rs:=[6]) (by kernel_rfl) (by simp) ?_
   refine AllReady.cons rfl (fun K hK => ?_) AllReady.nil
   go_simp
   refine hK _ _ ?_
   clear hK K
   try simp only [Act.put,y1,y2,y3,y4,y5,y6]
   refine wpAny_ready (rs:=[7]) (by kernel_rfl) (by simp) ?_
   refine AllReady.cons rfl (fun K hK => ?_) AllReady.nil
   go_simp
   refine hK _ _ ?_
   clear hK K
   try simp only [Act.put,y1,y2,y3,y4,y5,y6]
   refine wpAny_done (by kernel_rfl) ?_ _
   exact ⟨rfl,_,rfl,.tuple #[],by simp [results,Tryz.results34],rfl,rfl,pr_end H1.out H2.out H3.out h12 h23 _ _ rfl⟩
  refine AllReady.cons rfl (fun K hK => ?_) AllReady.nil
  go_simp
  refine hK _ _ ?_
  clear hK K
  try simp only [Act.put,y1,y2,y3,y4,y5,y6]
  refine wpAny_ready (rs:=[4]) (by kernel_rfl) (by simp) ?_
  refine AllReady.cons rfl (fun K hK => ?_) AllReady.nil
  go_simp
  refine hK _ _ ?_
  clear hK K
  try simp only [Act.put,y1,y2,y3,y4,y5,y6]
  refine wpAny_ready (rs:=[7]) (by kernel_rfl) (by simp) ?_
  refine AllReady.cons rfl (fun K hK => ?_) AllReady.nil
  go_simp
  refine hK _ _ ?_
  clear hK K
  try simp only [Act.put,y1,y2,y3,y4,y5,y6]
  refine wpAny_done (by kernel_rfl) ?_ _
  exact ⟨rfl,_,rfl,.tuple #[],by simp [results,Tryz.results34],rfl,rfl,pr_end H1.out H2.out H3.out h12 h23 _ _ rfl⟩
 refine AllReady.cons rfl (fun K hK => ?_) ?_
 ·
  go_simp
  refine hK _ _ ?_
  clear hK K
  try simp only [Act.put,y1,y2,y3,y4,y5,y6]
  refine wpAny_ready (rs:=[2,5]) (by kernel_rfl) (by simp) ?_
  refine AllReady.cons rfl (fun K hK => ?_) ?_
  ·
   go_simp
   refine hK _ _ ?_
   clear hK K
   try simp only [Act.put,y1,y2,y3,y4,y5,y6]
   refine wpAny_ready (rs:=[5]) (by kernel_rfl) (by simp) ?_
   refine AllReady.cons rfl (fun K hK => ?_) AllReady.nil
   go_simp
   refine hK _ _ ?_
   clear hK K
   try simp only [Act.put,y1,y2,y3,y4,y5,y6]
   refine wpAny_ready (rs:=[6]) (by kernel_rfl) (by simp) ?_
   refine AllReady.cons rfl (fun K hK => ?_) AllReady.nil
   go_simp
   refine hK _ _ ?_
   clear hK K
   try simp only [Act.put,y1,y2,y3,y4,y5,y6]
   refine wpAny_ready (rs:=[7]) (by kernel_rfl) (by simp) ?_
   refine AllReady.cons rfl (fun K hK => ?_) AllReady.nil
   go_simp
   refine hK _ _ ?_
   clear hK K
   try simp only [Act.put,y1,y2,y3,y4,y5,y6]
   refine wpAny_done (by kernel_rfl) ?_ _
   exact ⟨rfl,_,rfl,.tuple #[],by simp [results,Tryz.results34],rfl,rfl,pr_end H1.out H2.out H3.out h12 h23 _ _ rfl⟩
  refine AllReady.cons rfl (fun K hK => ?_) AllReady.nil
  go_simp
  refine hK _ _ ?_
  clear hK K
  try simp only [Act.put,y1,y2,y3,y4,y5,y6]
  refine wpAny_ready (rs:=[2]) (by kernel_rfl) (by simp) ?_
  refine AllReady.cons rfl (fun K hK => ?_) AllReady.nil
  go_simp
  refine hK _ _ ?_
  clear hK K
  try simp only [Act.put,y1,y2,y3,y4,y5,y6]
  refine wpAny_ready (rs:=[6]) (by kernel_rfl) (by simp) ?_
  refine AllReady.cons rfl (fun K hK => ?_) AllReady.nil
  go_simp
  refine hK _ _ ?_
  clear hK K
  try simp only [Act.put,y1,y2,y3,y4,y5,y6]
  refine wpAny_ready (rs:=[7]) (by kernel_rfl) (by simp) ?_
  refine AllReady.cons rfl (fun K hK => ?_) AllReady.nil
  go_simp
  refine hK _ _ ?_
  clear hK K
  try simp only [Act.put,y1,y2,y3,y4,y5,y6]
  refine wpAny_done (by kernel_rfl) ?_ _
  exact ⟨rfl,_,rfl,.tuple #[],by simp [results,Tryz.results34],rfl,rfl,pr_end H1.out H2.out H3.out h12 h23 _ _ rfl⟩
 refine AllReady.cons rfl (fun K hK => ?_) AllReady.nil
 go_simp
 refine hK _ _ ?_
 clear hK K
 try simp only [Act.put,y1,y2,y3,y4,y5,y6]
 refine wpAny_ready (rs:=[2,4]) (by kernel_rfl) (by simp) ?_
 refine AllReady.cons rfl (fun K hK => ?_) ?_
 ·
  go_simp
  refine hK _ _ ?_
  clear hK K
  try simp only [Act.put,y1,y2,y3,y4,y5,y6]
  refine wpAny_ready (rs:=[4,6]) (by kernel_rfl) (by simp) ?_
  refine AllReady.cons rfl (fun K hK => ?_) ?_
  ·
   go_simp
   refine hK _ _ ?_
   clear hK K
   try simp only [Act.put,y1,y2,y3,y4,y5,y6]
   refine wpAny_ready (rs:=[6]) (by kernel_rfl) (by simp) ?_
   refine AllReady.cons rfl (fun K hK => ?_) AllReady.nil
   go_simp
   refine hK _ _ ?_
   clear hK K
   try simp only [Act.put,y1,y2,y3,y4,y5,y6]
   refine wpAny_ready (rs:=[7]) (by kernel_rfl) (by simp) ?_
   refine AllReady.cons rfl (fun K hK => ?_) AllReady.nil
   go_simp
   refine hK _ _ ?_
   clear hK K
   try simp only [Act.put,y1,y2,y3,y4,y5,y6]
   refine wpAny_done (by kernel_rfl) ?_ _
   exact ⟨rfl,_,rfl,.tuple #[],by simp [results,Tryz.results34],rfl,rfl,pr_end H1.out H2.out H3.out h12 h23 _ _ rfl⟩
  refine AllReady.cons rfl (fun K hK => ?_) AllReady.nil
  go_simp
  refine hK _ _ ?_
  clear hK K
  try simp only [Act.put,y1,y2,y3,y4,y5,y6]
  refine wpAny_ready (rs:=[4]) (by kernel_rfl) (by simp) ?_
  refine AllReady.cons rfl (fun K hK => ?_) AllReady.nil
  go_simp
  refine hK _ _ ?_
  clear hK K
  try simp only [Act.put,y1,y2,y3,y4,y5,y6]
  refine wpAny_ready (rs:=[7]) (by kernel_rfl) (by simp) ?_
  refine AllReady.cons rfl (fun K hK => ?_) AllReady.nil
  go_simp
  refine hK _ _ ?_
  clear hK K
  try simp only [Act.put,y1,y2,y3,y4,y5,y6]
  refine wpAny_done (by kernel_rfl) ?_ _
  exact ⟨rfl,_,rfl,.tuple #[],by simp [results,Tryz.results34],rfl,rfl,pr_end H1.out H2.out H3.out h12 h23 _ _ rfl⟩
 refine AllReady.cons rfl (fun K hK => ?_) AllReady.nil
 go_simp
 refine hK _ _ ?_
 clear hK K
 try simp only [Act.put,y1,y2,y3,y4,y5,y6]
 refine wpAny_ready (rs:=[2]) (by kernel_rfl) (by simp) ?_
 refine AllReady.cons rfl (fun K hK => ?_) AllReady.nil
 go_simp
 refine hK _ _ ?_
 clear hK K
 try simp only [Act.put,y1,y2,y3,y4,y5,y6]
 refine wpAny_ready (rs:=[6]) (by kernel_rfl) (by simp) ?_
 refine AllReady.cons rfl (fun K hK => ?_) AllReady.nil
 go_simp
 refine hK _ _ ?_
 clear hK K
 try simp only [Act.put,y1,y2,y3,y4,y5,y6]
 refine wpAny_ready (rs:=[7]) (by kernel_rfl) (by simp) ?_
 refine AllReady.cons rfl (fun K hK => ?_) AllReady.nil
 go_simp
 refine hK _ _ ?_
 clear hK K
 try simp only [Act.put,y1,y2,y3,y4,y5,y6]
 refine wpAny_done (by kernel_rfl) ?_ _
 exact ⟨rfl,_,rfl,.tuple #[],by simp [results,Tryz.results34],rfl,rfl,pr_end H1.out H2.out H3.out h12 h23 _ _ rfl⟩
end Go.Proofs.YtgeppafcemeidaaGreatDoor
namespace Go.Proofs.YtgeppafcemeidaaGreatDoor
open Go.RowKit
open Sy (N NT R Ev Run Pg fx hd body opnd inf RunN EvN nd nmd PO Out)
open Tk (T)
theorem Tryz.en_prog (args : Array Value) (W : World) : (callFunc 30 args).run Tryz.prog W = .ok (.enter 30 args) W:=by kernel_rfl
def QPost (w : World) (o : PO) (e : Ending) (w' : World) : Prop:=match o with
 | .tree a => ∃ A c,e = .returned (.tuple #[ndV a.op a.nm a.n a.t A a.l.length c,.int .i64 0,.int .i64 0]) /\ NA w' (fun b => w.heap.size <= b) (ndV a.op a.nm a.n a.t A a.l.length c) a /\ Below w.heap.size w w'
 | .err at_ code => e = .returned (.tuple #[ndV 0 [] 0 [] none 0 0,.int .i64 at_,.int .i64 code]) /\ Below w.heap.size w w'
def w3r (w : World) : World:=((w.alloc zNode).alloc (.cells #[.int .i64 0] 3)).alloc (.cells #[.int .i64 0] 26)
theorem w3r_facts (w : World) : Nb (w3r w) w.heap.size 0 [] 0 [] none 0 0 /\ (w3r w).heap[w.heap.size + 1]? = some (.cells #[.int .i64 0] 3 (0,0)) /\ (w3r w).heap[w.heap.size + 2]? = some (.cells #[.int .i64 0] 26 (0,0)) /\ Below w.heap.size w (w3r w) /\ (w3r w).heap.size = w.heap.size + 3:=by
 have n1 : Nb (w.alloc zNode) w.heap.size 0 [] 0 [] none 0 0:=Nb.zero
 have s1 : (w.alloc zNode).heap.size = w.heap.size + 1:=by simp
 have h2 : ((w.alloc zNode).alloc (.cells #[.int .i64 0] 3)).heap[w.heap.size + 1]? = some (.cells #[.int .i64 0] 3 (0,0)):=by rw [<- s1];exact heap_alloc_new _ _
 have s2 : ((w.alloc zNode).alloc (.cells #[.int .i64 0] 3)).heap.size = w.heap.size + 2:=by simp
 have h3 : (w3r w).heap[w.heap.size + 2]? = some (.cells #[.int .i64 0] 26 (0,0)):=by rw [<- s2];exact heap_alloc_new _ _
 refine ⟨(n1.below (bl _)).below (bl _),((bl _).block _ (by omega)).trans h2,h3,((bl _).trans ((bl _).mono (by simp))).trans ((bl _).mono (by simp <;> omega)),by unfold w3r;simp⟩
theorem pr_end2 {w : World} {b1 b2 b3 : Nat} {x y op n : Int} {s t : List UInt8} {A : Option Addr} {m c : Nat} {t2 t3 : TypeId} (h1 : Nb w b1 0 [] 0 [] none 0 0) (h2 : w.heap[b2]? = some (.cells #[.int .i64 0] t2 (0,0))) (h3 : w.heap[b3]? = some (.cells #[.int .i64 0] t3 (0,0))) (h12 : b1 < b2) (h23 : b2 < b3) (W : World)
  (hW : W = ((((((w.setCell ⟨b1,0,none⟩ (.int .i64 op)).setCell ⟨b1,1,none⟩ (.string ⟨s.toArray⟩)).setCell ⟨b1,2,none⟩ (.int .i64 n)).setCell ⟨b1,3,none⟩ (.string ⟨t.toArray⟩)).setCell ⟨b1,4,none⟩ (.slice A m c)).setCell ⟨b2,0,none⟩ (.int .i64 x)).setCell ⟨b3,0,none⟩ (.int .i64 y)) :
  Nb W b1 op s n t A m c /\ W.cell? ⟨b2,0,none⟩ = some (.int .i64 x) /\ W.cell? ⟨b3,0,none⟩ = some (.int .i64 y) /\ Below b1 w W /\ (∀ {S : Nat -> Prop} {v : Value} {a : N},NA w S v a -> ¬ S b1 -> ¬ S b2 -> ¬ S b3 -> NA W S v a):=by
 subst hW
 have G1:=st5 w b1 (.int .i64 op) (.string ⟨s.toArray⟩) (.int .i64 n) (.string ⟨t.toArray⟩) (.slice A m c)
 have N1:=h1.st5 (op':=op) (s':=s) (n':=n) (t':=t) (A':=A) (m':=m) (c':=c)
 have hl:=h1.lt
 generalize ((((w.setCell ⟨b1,0,none⟩ (.int .i64 op)).setCell ⟨b1,1,none⟩ (.string ⟨s.toArray⟩)).setCell ⟨b1,2,none⟩ (.int .i64 n)).setCell ⟨b1,3,none⟩ (.string ⟨t.toArray⟩)).setCell ⟨b1,4,none⟩ (.slice A m c) = w5 at *
 have q2:=G1.obj h2 (by omega)
 have q3:=G1.obj h3 (by omega)
 have G2:=Ch.set w5 b2 0 (.int .i64 x)
 have r2:=heap_set (i:=0) (u:=.int .i64 x) q2
 have r3:=G2.obj q3 (by omega)
 have N2:=N1.ch G2 (by omega)
 generalize w5.setCell ⟨b2,0,none⟩ (.int .i64 x) = w6 at *
 have G3:=Ch.set w6 b3 0 (.int .i64 y)
 have s3:=heap_set (i:=0) (u:=.int .i64 y) r3
 have s2:=G3.obj r2 (by omega)
 have N3:=N2.ch G3 (by omega)
 generalize w6.setCell ⟨b3,0,none⟩ (.int .i64 y) = w7 at *
 have c2 : w7.cell? ⟨b2,0,none⟩ = some (.int .i64 x):=by have:=cellAt s2 0;simpa using this
 have c3 : w7.cell? ⟨b3,0,none⟩ = some (.int .i64 y):=by have:=cellAt s3 0;simpa using this
 have B1 : Below b1 w w7:=((G1.below (Nat.le_refl _) (Nat.le_of_lt hl)).trans (G2.below (Nat.le_of_lt h12) (Nat.le_trans (Nat.le_of_lt hl) G1.size))).trans (G3.below (by omega) (Nat.le_trans (Nat.le_trans (Nat.le_of_lt hl) G1.size) G2.size))
 exact ⟨N3,c2,c3,B1,fun hn e1 e2 e3 => ((hn.ch G1 e1).ch G2 e2).ch G3 e3⟩
theorem Parse_any (s : ByteArray) (o : PO) (ho : Out .prog s.data.toList o) (w : World) (hG : Good w) : Calls Tryz.prog 11 #[.string s] w (QPost w o):=by
 have hmf : ∀ (fn : Fn) (first cap : Array Value) (w : World),(Instr.makeFunc fn first cap).run Tryz.prog w = .ok (.func fn first cap) w:=fun _ _ _ _ => rfl
 obtain ⟨n1,h2,h3,hb,hs⟩:=w3r_facts w
 have CP:=hid (parse_any .prog 30 (by simp [Sy.NZ]) (by simp [Sy.sl]) Tryz.en_prog prog_e s o ho (w3r w) (hG.below hb))
 have HN:=hid n1
 have H2:=hid h2
 have H3:=hid h3
 have HB:=hid hb
 have HS:=hid hs
 clear n1 h2 h3 hb hs ho hG
 go_enter_defers Tryz.func11,Tryz.ntmps11
 go_wp2_with fail
 refine CP.out.mono ?_
 intro e w1 hp
 cases o with
 | err at_ code =>
  obtain ⟨rfl,hb1⟩:=hp
  have hN1:=HN.out.below hb1
  have h21:=(hb1.block _ (Array.getElem?_eq_some_iff.1 H2.out).1).trans H2.out
  have h31:=(hb1.block _ (Array.getElem?_eq_some_iff.1 H3.out).1).trans H3.out
  have HB1:=hid (HB.out.trans (hb1.mono HB.out.size))
  have CC:=hid (catch_panic_Parse w.heap.size (w.heap.size + 1) (w.heap.size + 2) (by omega) (by omega) at_ code [] w1 hN1 h21 h31)
  clear hN1 h21 h31 hb1
  go_wp2_with fail
  refine leaves_cons (f:=28) (args:=#[.pointer (some ⟨w.heap.size,0,none⟩),.pointer (some ⟨w.heap.size + 1,0,none⟩),.pointer (some ⟨w.heap.size + 2,0,none⟩)]) (by simp) (by simp [go_sem]) ?_
  refine CC.out.mono ?_
  rintro e2 u2 w2 ⟨rfl,rfl,hN2,q2,q3,hb2⟩
  have z0:=hN2.c0
  have z1:=hN2.c1
  have z2:=hN2.c2
  have z3:=hN2.c3
  have z4:=hN2.c4
  have HB2:=hid (HB1.out.trans hb2)
  clear hN2 hb2
  simp [Leaves,settle,results,Tryz.results11,go_sem,z0,z1,z2,z3,z4,q2,q3]
  exact ⟨rfl,HB2.out⟩
 | tree a =>
  obtain ⟨A,c,rfl,hna,hb1⟩:=hp
  have hN1:=HN.out.below hb1
  have h21:=(hb1.block _ (Array.getElem?_eq_some_iff.1 H2.out).1).trans H2.out
  have h31:=(hb1.block _ (Array.getElem?_eq_some_iff.1 H3.out).1).trans H3.out
  have HB1:=hid (HB.out.trans (hb1.mono HB.out.size))
  have hl3 : w.heap.size + 3 <= w1.heap.size:=by have:=hb1.size;rw [HS.out] at this;exact this
  have HE:=hid (pr_end2 (x:=0) (y:=0) (op:=a.op) (s:=a.nm) (n:=a.n) (t:=a.t) (A:=A) (m:=a.l.length) (c:=c) hN1 h21 h31 (by omega) (by omega) _ rfl)
  have HNA:=hid hna
  have z0:=hN1.c0
  have z1:=hN1.c1
  have z2:=hN1.c2
  have z3:=hN1.c3
  have z4:=hN1.c4
  have f0:=hN1.free 0
  have f1:=hN1.free 1
  have f2:=hN1.free 2
  have f3:=hN1.free 3
  have f4:=hN1.free 4
  have q0 : w1.cell? ⟨w.heap.size + 1,0,none⟩ = some (.int .i64 0):=by have:=cellAt h21 0;simpa using this
  have qf : w1.frozen? ⟨w.heap.size + 1,0,none⟩ = false:=freeAt h21 0
  have r0 : w1.cell? ⟨w.heap.size + 1 + 1,0,none⟩ = some (.int .i64 0):=by have:=cellAt h31 0;simpa using this
  have rf : w1.frozen? ⟨w.heap.size + 1 + 1,0,none⟩ = false:=freeAt h31 0
  clear hN1 h21 h31 hb1 hna
  unfold ndV
  go_wp2_with fail
  refine leaves_cons (f:=28) (args:=#[.pointer (some ⟨w.heap.size,0,none⟩),.pointer (some ⟨w.heap.size + 1,0,none⟩),.pointer (some ⟨w.heap.size + 2,0,none⟩)]) (by simp) (by simp [go_sem]) ?_
  refine (catch_idle_Parse _ _ _ _).mono ?_
  rintro e2 u2 w2 ⟨rfl,rfl,hb2⟩
  obtain ⟨N9,c2,c3,B9,hk⟩:=HE.out
  have hl9:=N9.lt
  have N9:=N9.below hb2
  have c2:=(hb2.cell (World.block_lt_of_cell? _ _ c2)).trans c2
  have c3:=(hb2.cell (World.block_lt_of_cell? _ _ c3)).trans c3
  have HNA9:=hid ((hk HNA.out (by rw [HS.out];omega) (by rw [HS.out];omega) (by rw [HS.out];omega)).below hb2)
  have HB9:=hid ((HB1.out.trans B9).trans (hb2.mono (Nat.le_of_lt hl9)))
  clear z0 z1 z2 z3 z4
  have z0:=N9.c0
  have z1:=N9.c1
  have z2:=N9.c2
  have z3:=N9.c3
  have z4:=N9.c4
  clear N9 B9 hk hb2 HE
  simp [Leaves,settle,results,Tryz.results11,go_sem,z0,z1,z2,z3,z4,c2,c3]
  exact ⟨A,c,rfl,HNA9.out.more (fun b hb _ => Nat.le_trans HB.out.size hb),HB9.out⟩
theorem Expr_any (s : ByteArray) (o : PO) (ho : Out (.chain 1) s.data.toList o) (w : World) (hG : Good w) : Calls Tryz.prog 15 #[.string s] w (QPost w o):=by
 have hmf : ∀ (fn : Fn) (first cap : Array Value) (w : World),(Instr.makeFunc fn first cap).run Tryz.prog w = .ok (.func fn first cap) w:=fun _ _ _ _ => rfl
 obtain ⟨n1,h2,h3,hb,hs⟩:=w3r_facts w
 have CP:=hid (parse_any (.chain 1) 35 (by simp [Sy.NZ]) (by simp [Sy.sl]) Tryz.en_expr expr_e s o ho (w3r w) (hG.below hb))
 have HN:=hid n1
 have H2:=hid h2
 have H3:=hid h3
 have HB:=hid hb
 have HS:=hid hs
 clear n1 h2 h3 hb hs ho hG
 go_enter_defers Tryz.func15,Tryz.ntmps15
 go_wp2_with fail
 refine CP.out.mono ?_
 intro e w1 hp
 cases o with
 | err at_ code =>
  obtain ⟨rfl,hb1⟩:=hp
  have hN1:=HN.out.below hb1
  have h21:=(hb1.block _ (Array.getElem?_eq_some_iff.1 H2.out).1).trans H2.out
  have h31:=(hb1.block _ (Array.getElem?_eq_some_iff.1 H3.out).1).trans H3.out
  have HB1:=hid (HB.out.trans (hb1.mono HB.out.size))
  have CC:=hid (catch_panic_Expr w.heap.size (w.heap.size + 1) (w.heap.size + 2) (by omega) (by omega) at_ code [] w1 hN1 h21 h31)
  clear hN1 h21 h31 hb1
  go_wp2_with fail
  refine leaves_cons (f:=34) (args:=#[.pointer (some ⟨w.heap.size,0,none⟩),.pointer (some ⟨w.heap.size + 1,0,none⟩),.pointer (some ⟨w.heap.size + 2,0,none⟩)]) (by simp) (by simp [go_sem]) ?_
  refine CC.out.mono ?_
  rintro e2 u2 w2 ⟨rfl,rfl,hN2,q2,q3,hb2⟩
  have z0:=hN2.c0
  have z1:=hN2.c1
  have z2:=hN2.c2
  have z3:=hN2.c3
  have z4:=hN2.c4
  have HB2:=hid (HB1.out.trans hb2)
  clear hN2 hb2
  simp [Leaves,settle,results,Tryz.results15,go_sem,z0,z1,z2,z3,z4,q2,q3]
  exact ⟨rfl,HB2.out⟩
 | tree a =>
  obtain ⟨A,c,rfl,hna,hb1⟩:=hp
  have hN1:=HN.out.below hb1
  have h21:=(hb1.block _ (Array.getElem?_eq_some_iff.1 H2.out).1).trans H2.out
  have h31:=(hb1.block _ (Array.getElem?_eq_some_iff.1 H3.out).1).trans H3.out
  have HB1:=hid (HB.out.trans (hb1.mono HB.out.size))
  have hl3 : w.heap.size + 3 <= w1.heap.size:=by have:=hb1.size;rw [HS.out] at this;exact this
  have HE:=hid (pr_end2 (x:=0) (y:=0) (op:=a.op) (s:=a.nm) (n:=a.n) (t:=a.t) (A:=A) (m:=a.l.length) (c:=c) hN1 h21 h31 (by omega) (by omega) _ rfl)
  have HNA:=hid hna
  have z0:=hN1.c0
  have z1:=hN1.c1
  have z2:=hN1.c2
  have z3:=hN1.c3
  have z4:=hN1.c4
  have f0:=hN1.free 0
  have f1:=hN1.free 1
  have f2:=hN1.free 2
  have f3:=hN1.free 3
  have f4:=hN1.free 4
  have q0 : w1.cell? ⟨w.heap.size + 1,0,none⟩ = some (.int .i64 0):=by have:=cellAt h21 0;simpa using this
  have qf : w1.frozen? ⟨w.heap.size + 1,0,none⟩ = false:=freeAt h21 0
  have r0 : w1.cell? ⟨w.heap.size + 1 + 1,0,none⟩ = some (.int .i64 0):=by have:=cellAt h31 0;simpa using this
  have rf : w1.frozen? ⟨w.heap.size + 1 + 1,0,none⟩ = false:=freeAt h31 0
  clear hN1 h21 h31 hb1 hna
  unfold ndV
  go_wp2_with fail
  refine leaves_cons (f:=34) (args:=#[.pointer (some ⟨w.heap.size,0,none⟩),.pointer (some ⟨w.heap.size + 1,0,none⟩),.pointer (some ⟨w.heap.size + 2,0,none⟩)]) (by simp) (by simp [go_sem]) ?_
  refine (catch_idle_Expr _ _ _ _).mono ?_
  rintro e2 u2 w2 ⟨rfl,rfl,hb2⟩
  obtain ⟨N9,c2,c3,B9,hk⟩:=HE.out
  have hl9:=N9.lt
  have N9:=N9.below hb2
  have c2:=(hb2.cell (World.block_lt_of_cell? _ _ c2)).trans c2
  have c3:=(hb2.cell (World.block_lt_of_cell? _ _ c3)).trans c3
  have HNA9:=hid ((hk HNA.out (by rw [HS.out];omega) (by rw [HS.out];omega) (by rw [HS.out];omega)).below hb2)
  have HB9:=hid ((HB1.out.trans B9).trans (hb2.mono (Nat.le_of_lt hl9)))
  clear z0 z1 z2 z3 z4
  have z0:=N9.c0
  have z1:=N9.c1
  have z2:=N9.c2
  have z3:=N9.c3
  have z4:=N9.c4
  clear N9 B9 hk hb2 HE
  simp [Leaves,settle,results,Tryz.results15,go_sem,z0,z1,z2,z3,z4,c2,c3]
  exact ⟨A,c,rfl,HNA9.out.more (fun b hb _ => Nat.le_trans HB.out.size hb),HB9.out⟩
end Go.Proofs.YtgeppafcemeidaaGreatDoor
