/-
  Texts of a proof, joined: functions of the program and of its reference by contract, and what holds of trees, tokens and bytes.
-/
import Derived.BigQuiet
import Derived.Deep.Cut
import Derived.Deep.OwnRows
import Derived.Deep.QuietTactic
import Derived.Deep.RegionHeld3
import Derived.Deep.RegionLaw
import Derived.Deep.RegionWith
import Derived.Deep.Slices
import Derived.Laws.Runes
import Derived.Lib.AppendStr
import Derived.Lib.AtoiAllCases
import Derived.Lib.Bytealg
import Derived.Lib.ItoaNum
import Derived.LoopN
import Derived.Maps.AppendAt
import Derived.OpenShut
import Derived.ProofKit
import Derived.Test.YtgeppafcemeidaaGreatDoorRows
import Derived.WalkKit
import Derived.WalkLawsBesides
import Derived.WalkMore
import Derived.WalkSpells
set_option linter.unusedVariables false
set_option linter.unusedSimpArgs false
set_option maxRecDepth 100000
set_option maxHeartbeats 8000000
namespace Go.Proofs.YtgeppafcemeidaaGreatDoor
namespace Nm
def letter (c : UInt8) : Bool:=(decide (97 <= c.toNat) && decide (c.toNat <= 122)) || (decide (65 <= c.toNat) && decide (c.toNat <= 90))
def digit (c : UInt8) : Bool:=decide (48 <= c.toNat) && decide (c.toNat <= 57)
def okc (c : UInt8) : Bool:=letter c || digit c || decide (c.toNat = 95)
def right (l : List UInt8) : Bool:=decide (1 <= l.length) && decide (l.length <= 64) && !digit (l.headD 0) && l.all okc
theorem dec_small {u : Nat} (h : u < 10) : Lib.decDigits u = [UInt8.ofNat (48 + u)]:=by rw [Lib.decDigits,dif_pos h]
theorem dec_big {u : Nat} (h : ¬ u < 10) : Lib.decDigits u = Lib.decDigits (u / 10) ++ [UInt8.ofNat (48 + u % 10)]:=by rw [Lib.decDigits,dif_neg h]
theorem ofNat_toNat {k : Nat} (h : k < 10) : (UInt8.ofNat (48 + k)).toNat = 48 + k:=by
 rw [UInt8.toNat_ofNat']
 omega
theorem dec_len (k : Nat) : ∀ u,u < 10 ^ (k + 1) -> (Lib.decDigits u).length <= k + 1:=by
 induction k with
 | zero => intro u h;rw [dec_small (by omega)];simp
 | succ k ih =>
  intro u h
  by_cases h1 : u < 10
  ·
   rw [dec_small h1];simp
  ·
   rw [dec_big h1,List.length_append]
   have:=ih (u / 10) (by rw [Nat.pow_succ] at h;omega)
   simp;omega
def val (a : Nat) (l : List UInt8) : Nat:=l.foldl (fun a c => a * 10 + (c.toNat - 48)) a
theorem val_cons (a : Nat) (c : UInt8) (l : List UInt8) : val a (c :: l) = val (a * 10 + (c.toNat - 48)) l:=by simp [val]
theorem val_ge : ∀ (l : List UInt8) (a : Nat),a <= val a l
 | [],a => Nat.le_refl _
 | c :: l,a => by rw [val_cons];exact Nat.le_trans (by omega) (val_ge l _)
theorem parse_val : ∀ (l : List UInt8) (a : Nat),(∀ c ∈ l,48 <= c.toNat /\ c.toNat <= 57) -> val a l < 9223372036854775808 -> Lib.parseUint10 a l = .ok (val a l)
 | [],a,_,_ => rfl
 | c :: l,a,hd,hv => by
  have hc:=hd c (by simp)
  rw [val_cons] at hv |-
  have hg:=val_ge l (a * 10 + (c.toNat - 48))
  rw [Lib.parseUint10,if_pos hc,if_neg (by omega),if_neg (by omega)]
  exact parse_val l _ (fun c hc => hd c (by simp [hc])) hv
def wr (x : Int) : Int:=(x + 9223372036854775808) % 18446744073709551616 - 9223372036854775808
def idx (l : List UInt8) : Int:=Lib.indexByte l 47
def split (l : List UInt8) : List UInt8 × List UInt8 × Bool:=if l.count 47 = 1 then (l.take (idx l).toNat,l.drop ((idx l).toNat + 1),true) else ([],[],false)
def key (a b : List UInt8) : List UInt8:=a ++ [47] ++ b
end Nm
end Go.Proofs.YtgeppafcemeidaaGreatDoor
namespace Go.Proofs.YtgeppafcemeidaaGreatDoor
namespace Tk
def blank (c : UInt8) : Bool:=decide (c.toNat = 32) || decide (c.toNat = 9) || decide (c.toNat = 10)
def digit (c : UInt8) : Bool:=decide (48 <= c.toNat) && decide (c.toNat <= 57)
def letter (c : UInt8) : Bool:=((decide (97 <= c.toNat) && decide (c.toNat <= 122)) || (decide (65 <= c.toNat) && decide (c.toNat <= 90))) || decide (c.toNat = 95)
def wordc (c : UInt8) : Bool:=letter c || digit c
def signc (c : UInt8) : Bool:=[40,41,123,125,91,93,44,59,46,58,61,60,62,43,45,42,47,37].contains c
def pairc (c : UInt8) : Bool:=[61,33,60,62].contains c
def hexv (c : UInt8) : Int:=if digit c then (c.toNat : Int) - 48 else if 97 <= c.toNat /\ c.toNat <= 102 then (c.toNat : Int) - 87 else -1
def kws : List (List UInt8):=[
 [97,110,100],[97,119,97,105,116],[99,97,115,101],[99,97,116,99,104],[99,104,101,99,107],[101,108,115,101],[102,97,108,115,101],
 [102,117,110,99],[103,111],[105,102],[108,101,116],[110,111,116],[110,117,108,108],[111,110],[111,114],[113,117,101,114,121],
 [114,101,116,117,114,110],[115,97,103,97],[115,101,108,101,99,116],[115,105,103,110,97,108],[116,104,114,111,119],
 [116,114,117,101],[116,114,121],[117,110,100,111],[117,112,100,97,116,101],[118,97,114],[119,104,105,108,101]]
def kw (l : List UInt8) : Bool:=kws.contains l
inductive TR where
 | bad (e : Int)
 | good (k : Int) (t : List UInt8) (n : Int) (r : List UInt8)
 deriving DecidableEq
inductive ER where
 | bad (e : Int)
 | good (c : UInt8) (r : List UInt8)
 deriving DecidableEq
def code (l : List UInt8) : ER :=
 match l with
 | [] => .bad 4
 | a :: r => if hexv a < 0 then .bad 3 else
  match r with
  | [] => .bad 4
  | b :: r => if hexv b < 0 then .bad 3 else .good (UInt8.ofNat (16 * hexv a + hexv b).toNat) r
def esc (l : List UInt8) : ER :=
 match l with
 | [] => .bad 4
 | c :: r => if c.toNat = 34 \/ c.toNat = 92 then .good c r else if c.toNat = 110 then .good 10 r else if c.toNat = 116 then .good 9 r else if c.toNat = 120 then code r else .bad 3
def lit : Nat -> List UInt8 -> List UInt8 -> TR
 | 0,_,_ => .bad 4
 | _ + 1,[],_ => .bad 4
 | f + 1,c :: r,acc =>
  if c.toNat = 34 then (if acc.length > 4096 then .bad 6 else .good 4 acc 0 r)
  else if c.toNat = 92 then
   (match esc r with
   | .bad e => .bad e
   | .good d r' => lit f r' (acc ++ [d]))
  else if c.toNat < 32 \/ c.toNat > 126 then .bad 3
  else lit f r (acc ++ [c])
def num (l : List UInt8) : TR :=
 let d:=l.takeWhile digit
 let r:=l.dropWhile digit
 if (d.length > 1 /\ (l.headD 0).toNat = 48) \/ letter (r.headD 0) = true then .bad 3
 else if Nm.val 0 d > 9223372036854775807 then .bad 14
 else .good 3 [] (Nm.val 0 d : Int) r
def wordT (l : List UInt8) : TR :=
 let d:=l.takeWhile wordc
 if d.length > 64 then .bad 8 else .good (if kw d then 2 else 1) d 0 (l.dropWhile wordc)
def sgn (c : UInt8) (r : List UInt8) : TR :=
 if pairc c = true /\ (r.headD 0).toNat = 61 then .good 5 [c,61] 0 r.tail
 else if signc c then .good 5 [c] 0 r else .bad 3
def tok (l : List UInt8) : TR :=
 match l with
 | [] => .good 0 [] 0 []
 | c :: r => if letter c then wordT (c :: r) else if digit c then num (c :: r) else if c.toNat = 34 then lit r.length r [] else sgn c r
structure T where
 k : Int
 at_ : Int
 t : List UInt8
 n : Int
 deriving DecidableEq
inductive SR where
 | bad (o : Int) (e : Int)
 | good (l : List T)
 deriving DecidableEq
def scan (N : Nat) : Nat -> List UInt8 -> List T -> SR
 | 0,_,_ => .bad 0 0
 | f + 1,l,acc =>
  match tok (l.dropWhile blank) with
  | .bad e => .bad ((N : Int) - (l.dropWhile blank).length) e
  | .good k t n r =>
   if k = 0 then .good (acc ++ [⟨k,(N : Int) - (l.dropWhile blank).length,t,n⟩])
   else scan N f r (acc ++ [⟨k,(N : Int) - (l.dropWhile blank).length,t,n⟩])
def scanA (l : List UInt8) : SR:=if l.length > 16384 then .bad 0 6 else scan l.length (l.length + 1) l []
theorem code_len {l r : List UInt8} {c : UInt8} (h : code l = .good c r) : r.length + 2 <= l.length:=by
 unfold code at h
 split at h
 ·
  cases h
 ·
  split at h
  ·
   cases h
  ·
   split at h
   ·
    cases h
   ·
    split at h
    ·
     cases h
    ·
     cases h;simp
theorem esc_len {l r : List UInt8} {c : UInt8} (h : esc l = .good c r) : r.length + 1 <= l.length:=by
 unfold esc at h
 split at h
 ·
  cases h
 ·
  split at h
  ·
   cases h;simp
  ·
   split at h
   ·
    cases h;simp
   ·
    split at h
    ·
     cases h;simp
    ·
     split at h
     ·
      have:=code_len h;simp;omega
     ·
      cases h
theorem dropWhile_len (p : UInt8 -> Bool) : ∀ l : List UInt8,(l.dropWhile p).length <= l.length
 | [] => by simp
 | c :: l => by
  rw [List.dropWhile_cons]
  have:=dropWhile_len p l
  split <;> simp <;> omega
theorem lit_len : ∀ (f : Nat) (l acc : List UInt8) {k : Int} {t : List UInt8} {n : Int} {r : List UInt8},lit f l acc = .good k t n r -> r.length + 1 <= l.length /\ k = 4 /\ n = 0
 | 0,l,acc,k,t,n,r,h => by simp [lit] at h
 | f + 1,[],acc,k,t,n,r,h => by simp [lit] at h
 | f + 1,c :: l,acc,k,t,n,r,h => by
  unfold lit at h
  split at h
  ·
   split at h
   ·
    cases h
   ·
    cases h;simp
  ·
   split at h
   ·
    split at h
    ·
     cases h
    ·
     rename_i d r' he
     have h1:=esc_len he
     have h2:=lit_len f r' _ h
     simp only [List.length_cons];omega
   ·
    split at h
    ·
     cases h
    ·
     have h2:=lit_len f l _ h
     simp only [List.length_cons];omega
theorem tok_len {l r : List UInt8} {k n : Int} {t : List UInt8} (h : tok l = .good k t n r) : (k = 0 /\ l = [] /\ t = [] /\ n = 0) \/ (1 <= k /\ k <= 5 /\ r.length + 1 <= l.length):=by
 unfold tok at h
 split at h
 ·
  cases h;simp
 ·
  rename_i c s
  split at h
  ·
   rename_i hc
   unfold wordT at h
   simp only [] at h
   split at h
   ·
    cases h
   ·
    cases h
    have : wordc c = true:=by simp [wordc,hc]
    rw [List.dropWhile_cons,if_pos this]
    have:=dropWhile_len wordc s
    right
    refine ⟨?_,?_,by simp;omega⟩ <;> split <;> omega
  ·
   split at h
   ·
    rename_i hc
    unfold num at h
    simp only [] at h
    split at h
    ·
     cases h
    ·
     split at h
     ·
      cases h
     ·
      cases h
      rw [List.dropWhile_cons,if_pos hc]
      have:=dropWhile_len digit s
      right
      exact ⟨by omega,by omega,by simp;omega⟩
   ·
    split at h
    ·
     have:=lit_len _ _ _ h
     right
     simp only [List.length_cons];omega
    ·
     unfold sgn at h
     split at h
     ·
      rename_i hp
      cases h
      right
      refine ⟨by omega,by omega,?_⟩
      simp
     ·
      split at h
      ·
       cases h;right;simp
      ·
       cases h
end Tk
end Go.Proofs.YtgeppafcemeidaaGreatDoor
namespace Go.Proofs.YtgeppafcemeidaaGreatDoor
namespace Wi
def zig (n : Int) : Nat:=if 0 <= n then (2 * n).toNat else (-2 * n - 1).toNat
def digs (u : Nat) : List UInt8:=if u < 128 then [UInt8.ofNat u] else UInt8.ofNat (u % 128 + 128) :: digs (u / 128)
termination_by u
decreasing_by omega
def enc (n : Int) : List UInt8:=digs (zig n)
def val : List UInt8 -> Nat
 | [] => 0
 | b :: l => b.toNat % 128 + 128 * val l
def badEnd (j b : Nat) : Prop:=(1 <= j /\ b = 0) \/ (j = 9 /\ 1 < b)
instance (j b : Nat) : Decidable (badEnd j b):=by unfold badEnd;infer_instance
theorem ofNat_toNat {k : Nat} (h : k < 256) : (UInt8.ofNat k).toNat = k:=by simp [UInt8.toNat_ofNat'];omega
end Wi
end Go.Proofs.YtgeppafcemeidaaGreatDoor
namespace Go.Proofs.YtgeppafcemeidaaGreatDoor
open Go.RowKit
theorem ret_int {k : IntKind} {a b : Int} (h : a = b) : Ending.returned (.int k a) = .returned (.int k b):=by rw [h]
theorem ret_bool {a b : Bool} (h : a = b) : Ending.returned (.bool a) = .returned (.bool b):=by rw [h]
end Go.Proofs.YtgeppafcemeidaaGreatDoor
namespace Go.Proofs.YtgeppafcemeidaaGreatDoor
open Go.RowKit
theorem hid {p : Prop} (h : p) : Hid p:=h
def Rd (w : World) (v : Value) (xs : List Value) : Prop :=
 ∃ (A : Option Addr) (c : Nat),v = .slice A xs.length c /\ xs.length <= c /\ c <= maxLen /\
  (xs = [] \/ ∃ ad,A = some ad /\ ∀ j u,xs[j]? = some u -> w.cell? (ad.add j) = some u)
def Own (w : World) (base : Nat) (e : TypeId) (v : Value) (xs : List Value) : Prop:=w.ownsRow base e 1 v xs.length xs
section
variable {w w' : World} {v : Value} {xs : List Value} {base B : Nat} {e : TypeId}
theorem Rd.keep (h : Rd w v xs) (hk : ∀ a u,u ∈ xs -> w.cell? a = some u -> w'.cell? a = some u) : Rd w' v xs:=by
 obtain ⟨A,c,rfl,h1,h2,h3⟩:=h
 refine ⟨A,c,rfl,h1,h2,?_⟩
 rcases h3 with h3 | ⟨ad,rfl,h3⟩
 ·
  exact .inl h3
 ·
  exact .inr ⟨ad,rfl,fun j u hj => hk _ _ (List.mem_of_getElem? hj) (h3 j u hj)⟩
theorem Rd.below (h : Rd w v xs) (hb : Below w.heap.size w w') : Rd w' v xs :=
 h.keep fun a _ _ hc => (hb.cell (World.block_lt_of_cell? w a hc)).trans hc
theorem Rd.nil (w : World) : Rd w (.slice none 0 0) []:=⟨none,0,rfl,Nat.le_refl _,Nat.zero_le _,.inl rfl⟩
theorem Own.rd (h : Own w base e v xs) : Rd w v xs:=by
 rcases h.2 with ⟨rfl,h0⟩ | ⟨g,cap,cur,rfl,hb,hg,h1,h2,h3,h4⟩
 ·
  have : xs = []:=List.eq_nil_of_length_eq_zero h0
  subst this
  exact Rd.nil w
 ·
  exact ⟨_,cap,rfl,h1,h2,.inr ⟨_,rfl,World.ownsRow.cells h rfl⟩⟩
theorem Own.below (h : Own w base e v xs) (hb : Below w.heap.size w w') : Own w' base e v xs:=by
 rcases h.2 with ⟨rfl,h0⟩ | ⟨g,cap,cur,rfl,hbg,hg,h1⟩
 ·
  exact ⟨h.1,.inl ⟨rfl,h0⟩⟩
 ·
  exact ⟨h.1,.inr ⟨g,cap,cur,rfl,hbg,(hb.block g (Array.getElem?_eq_some_iff.1 hg).1).trans hg,h1⟩⟩
theorem Own.nil (w : World) (base : Nat) (e : TypeId) : Own w base e (.slice none 0 0) []:=⟨by simp,.inl ⟨rfl,rfl⟩⟩
theorem Own.form (h : Own w base e v xs) : ∃ A c,v = .slice A xs.length c:=by
 obtain ⟨A,c,hv,_⟩:=h.rd
 exact ⟨A,c,hv⟩
theorem Own.base_le (h : Own w base e v xs) : ∀ k,v.ownBlock = some k -> base <= k:=fun k hk => (World.ownsRow.lt h k hk).1
theorem Own.alloc (h : Own w base e v xs) (o : Obj) : Own (w.alloc o) base e v xs:=World.ownsRow.alloc h o
theorem Own.drew (h : Own w base e v xs) : Own w.drew base e v xs:=h
theorem Own.lit (w : World) (cs : List Value) (hb : base <= w.heap.size) (hm : cs.length <= maxLen) :
  Own (w.alloc (.cells cs.toArray e)) base e (.slice (some ⟨w.heap.size,0,none⟩) cs.length cs.length) cs:=by
 have:=World.ownsRow_lit (e:=e) (size:=1) w cs.toArray cs.length hb hm (by simp)
 simpa [Own] using this
theorem bstep {a b c : World} (h : Below a.heap.size a b) (k : Below b.heap.size b c) : Below a.heap.size a c:=h.trans (k.mono h.size)
end
section
variable {P : Program} (w : World)
theorem run_app (base : Nat) (t ty e : TypeId) (i : TypeInfo) (z : Value) (bytes : Nat) (ht : P.underlying t = some (.slice e)) (hi : P.info? e = some i) (hz : i.zero = some z)
  (hsize : i.size = 1) (hby : i.bytes = bytes) (hzs : z.cells.size = 1)
  (v s : Value) (xs news : List Value) (hown : Own w base e v xs) (hrd : Rd w s news) (h1 : ∀ u ∈ news,u.oneCell' = true)
  (hbytes : (xs.length + news.length) * bytes <= 140737488355328) (h63 : xs.length + news.length <= 140737488355328) (hbase : base <= w.heap.size) :
  ∃ v' w',(Builtin.append_ #[t,t] ty #[v,s]).run P w = .ok v' w' /\ Own w' base e v' (xs ++ news) /\ w.grownBy w' v.ownBlock /\ Below base w w' /\
   (v'.ownBlock = v.ownBlock \/ v'.ownBlock = some w.heap.size):=by
 obtain ⟨A,c,rfl,hc1,hc2,hcells⟩:=hrd
 have fin : ∀ w',w.grownBy w' v.ownBlock -> Below base w w':=fun w' hg => (Below.refl base w).grown hg hbase hown.base_le
 by_cases hm : news = []
 ·
  subst hm
  have hrun : (Builtin.append_ #[t,t] ty #[v,.slice A 0 c]).run P w = .ok v w:=by
   rcases hown.2 with ⟨rfl,h0⟩ | ⟨g,cap,cur,rfl,_,_,hnc,_⟩
   ·
    cases A <;> simp [Builtin.append_,run_underlying ht,sizeOf,typeInfo,hi,Builtin.lenOf,Builtin.firstCells,loadCells,loadCellsFrom]
   ·
    cases A <;> simp [Builtin.append_,run_underlying ht,sizeOf,typeInfo,hi,Builtin.lenOf,Builtin.firstCells,loadCells,loadCellsFrom,hnc,storeCells]
  exact ⟨v,w,hrun,by simpa using hown,World.grownBy.refl w _,Below.refl _ _,.inl rfl⟩
 ·
  rcases hcells with h | ⟨ad,rfl,hcells⟩
  ·
   exact absurd h hm
  ·
   obtain ⟨v',w',hrun,h2,h3,_,h5⟩:=run_append_own_at (P:=P) w base t ty e i z 1 bytes ht hi hz hsize hby hzs (by omega) v xs.length xs hown ad news.length c news (by simp) hcells h1
    (by unfold maxLen;omega) hbytes hbase
   exact ⟨v',w',hrun,by simpa [Own] using h2,h3,fin w' h3,h5⟩
theorem wp_app {o : Oper} {a : Act} {K : Act -> World -> Prop} {Q : Exit -> Act -> World -> Prop} (s x : Operand) (t : TypeId)
  (ho : o.op = .call { callee:=.builtin .append,args:=#[s,x],argTypes:=#[t,t] })
  (base : Nat) (e : TypeId) (i : TypeInfo) (z : Value) (bytes : Nat) (ht : P.underlying t = some (.slice e)) (hi : P.info? e = some i) (hz : i.zero = some z)
  (hsize : i.size = 1) (hby : i.bytes = bytes) (hzs : z.cells.size = 1)
  (v y : Value) (xs news : List Value) (hs : a.eval s = v) (hown : Own w base e v xs) (hx : a.eval x = y) (hrd : Rd w y news) (h1 : ∀ u ∈ news,u.oneCell' = true)
  (hbytes : (xs.length + news.length) * bytes <= 140737488355328) (h63 : xs.length + news.length <= 140737488355328) (hbase : base <= w.heap.size)
  (h : ∀ v' w',Own w' base e v' (xs ++ news) -> Below base w w' -> w.grownBy w' v.ownBlock -> (v'.ownBlock = v.ownBlock \/ v'.ownBlock = some w.heap.size) -> K (a.put o.dst v') w') : o.wp P a w K Q:=by
 obtain ⟨v',w',hrun,h2,h3,h4,h5⟩:=run_app (P:=P) w base t o.type e i z bytes ht hi hz hsize hby hzs v y xs news hown hrd h1 hbytes h63 hbase
 unfold Oper.wp execOp
 simp only [ho,resolve,invoke,builtin,Sem.run_bind,Sem.run_pure,Result.andThen_ok,List.map_toArray,List.map_cons,List.map_nil,hs,hx,hrun]
 exact h v' w' h2 h4 h3 h5
theorem wpList_app {ops : Array Oper} {rest : List Oper} {o : Oper} {a : Act} {Q : Exit -> Act -> World -> Prop} (hgd : o.guard = none) (s x : Operand) (t : TypeId)
  (ho : o.op = .call { callee:=.builtin .append,args:=#[s,x],argTypes:=#[t,t] })
  (base : Nat) (e : TypeId) (i : TypeInfo) (z : Value) (bytes : Nat) (ht : P.underlying t = some (.slice e)) (hi : P.info? e = some i) (hz : i.zero = some z)
  (hsize : i.size = 1) (hby : i.bytes = bytes) (hzs : z.cells.size = 1)
  (v y : Value) (xs news : List Value) (hs : a.eval s = v) (hown : Own w base e v xs) (hx : a.eval x = y) (hrd : Rd w y news) (h1 : ∀ u ∈ news,u.oneCell' = true)
  (hbytes : (xs.length + news.length) * bytes <= 140737488355328) (h63 : xs.length + news.length <= 140737488355328) (hbase : base <= w.heap.size)
  (h : ∀ v' w',Own w' base e v' (xs ++ news) -> Below base w w' -> wpList P ops Q rest (a.put o.dst v') w') : wpList P ops Q (o :: rest) a w :=
 wpList_plain hgd fun _ hK => wp_app w s x t ho base e i z bytes ht hi hz hsize hby hzs v y xs news hs hown hx hrd h1 hbytes h63 hbase fun v' w' h2 h4 _ _ => hK _ _ (h v' w' h2 h4)
theorem wpList_appStr {ops : Array Oper} {rest : List Oper} {o : Oper} {a : Act} {Q : Exit -> Act -> World -> Prop} (hgd : o.guard = none) (sl x : Operand) (t u : TypeId)
  (ho : o.op = .call { callee:=.builtin .append,args:=#[sl,x],argTypes:=#[t,u] })
  (base : Nat) (e : TypeId) (i : TypeInfo) (ht : P.underlying t = some (.slice e)) (hu : P.underlying u = some .string) (hi : P.info? e = some i) (hz : i.zero = some (.int .u8 0))
  (hsize : i.size = 1) (hby : i.bytes = 1)
  (v : Value) (xs : List Value) (hs : a.eval sl = v) (hown : Own w base e v xs) (s : ByteArray) (hx : a.eval x = .string s)
  (h63 : xs.length + s.size <= 140737488355328) (hbase : base <= w.heap.size)
  (h : ∀ v' w',Own w' base e v' (xs ++ Lib.strCells s) -> Below base w w' -> wpList P ops Q rest (a.put o.dst v') w') : wpList P ops Q (o :: rest) a w :=
 Lib.wpList_append_own_string w hgd sl x t u ho base e i ht hu hi hz hsize hby v xs.length xs hs hown s hx (by unfold maxLen;omega) h63 hbase
  (fun v' w' h2 h3 _ => h v' w' (by simpa [Own,Lib.strCells_length] using h2) ((Below.refl base w).grown h3 hbase hown.base_le))
theorem Own.cap {e : TypeId} {base : Nat} (xs ys : List Value) (hb : base <= w.heap.size) (hm : xs.length + ys.length <= maxLen) :
  Own (w.alloc (.cells (xs ++ ys).toArray e)) base e (.slice (some ⟨w.heap.size,0,none⟩) xs.length (xs.length + ys.length)) xs :=
 ⟨by simp,.inr ⟨w.heap.size,xs.length + ys.length,_,rfl,hb,heap_alloc_new w _,Nat.le_add_right _ _,hm,by simp,by simp⟩⟩
end
end Go.Proofs.YtgeppafcemeidaaGreatDoor
namespace Go.Proofs.YtgeppafcemeidaaGreatDoor
open Go.RowKit
def by8 (b : UInt8) : Value:=.int .u8 (b.toNat : Int)
def Bs (w : World) (v : Value) (bs : List UInt8) : Prop:=Rd w v (bs.map by8)
def OwnB (w : World) (base : Nat) (v : Value) (bs : List UInt8) : Prop:=Own w base 5 v (bs.map by8)
theorem one8 (bs : List UInt8) : ∀ u ∈ bs.map by8,u.oneCell' = true:=by
 intro u hu
 obtain ⟨b,_,rfl⟩:=List.mem_map.1 hu
 rfl
theorem OwnB.bs {w : World} {base : Nat} {v : Value} {bs : List UInt8} (h : OwnB w base v bs) : Bs w v bs:=Own.rd h
theorem OwnB.below {w w' : World} {base : Nat} {v : Value} {bs : List UInt8} (h : OwnB w base v bs) (hb : Below w.heap.size w w') : OwnB w' base v bs:=Own.below h hb
theorem Bs.below {w w' : World} {v : Value} {bs : List UInt8} (h : Bs w v bs) (hb : Below w.heap.size w w') : Bs w' v bs:=Rd.below h hb
theorem Bs.nil (w : World) : Bs w (.slice none 0 0) []:=Rd.nil w
theorem Bs.form {w : World} {v : Value} {bs : List UInt8} (h : Bs w v bs) : ∃ A c,v = .slice A bs.length c:=by
 obtain ⟨A,c,rfl,_⟩:=h
 exact ⟨A,c,by simp⟩
theorem Tryz.info5 : (Tryz.prog.info? 5).map (fun i => (i.zero,i.size,i.bytes)) = some (some (.int .u8 0),1,1):=by kernel_rfl
def NewB (w : World) (bs : List UInt8) (e : Ending) (w' : World) : Prop:=∃ v',e = .returned v' /\ OwnB w' w.heap.size v' bs /\ Below w.heap.size w w'
theorem lit_rd (w : World) (xs : List Value) (h : xs.length <= maxLen) : Rd (w.alloc (.cells xs.toArray 5)) (.slice (some ⟨w.heap.size,0,none⟩) xs.length xs.length) xs :=
 (Own.lit (base:=0) w xs (Nat.zero_le _) h).rd
theorem lit8 {m : Nat} (h : m < 256) : Value.int .u8 (m : Int) = by8 (UInt8.ofNat m):=by
 unfold by8;rw [Wi.ofNat_toNat h]
theorem wpList_app8 {wr : World} {ops : Array Oper} {rest : List Oper} {o : Oper} {a : Act} {Q : Exit -> Act -> World -> Prop} (hgd : o.guard = none) (s x : Operand)
  (ho : o.op = .call { callee:=.builtin .append,args:=#[s,x],argTypes:=#[70,70] })
  (base : Nat) (v : Value) (pre : List UInt8) (k : Int) (b : UInt8) (hk : Value.int .u8 k = by8 b) (hs : a.eval s = v) (hown : OwnB wr base v pre) (hx : a.eval x = .slice (some ⟨wr.heap.size,0,none⟩) 1 1)
  (hl : pre.length <= 70368744177664) (hbase : base <= wr.heap.size)
  (h : ∀ v' w',OwnB w' base v' (pre ++ [b]) -> Below base wr w' -> wpList Tryz.prog ops Q rest (a.put o.dst v') w') : wpList Tryz.prog ops Q (o :: rest) a (wr.alloc (.cells #[.int .u8 k] 5)):=by
 obtain ⟨i0,hi,hz0,hz1,hz2⟩:=info_parts Tryz.info5
 refine wpList_app (wr.alloc (.cells #[.int .u8 k] 5)) hgd s x 70 ho base 5 i0 (.int .u8 0) 1 Tryz.underlying70 hi hz0 hz1 hz2 rfl v _ (pre.map by8) [.int .u8 k] hs (Own.alloc hown _) hx
  (lit_rd wr [.int .u8 k] (by simp [maxLen])) (by intro u hu;obtain rfl:=List.mem_singleton.1 hu;rfl) (by simp;omega) (by simp;omega) (by simp;omega) ?_
 intro v' w' h1 h2
 refine h v' w' ?_ (((Below.refl base wr).alloc hbase _).trans h2)
 unfold OwnB
 rw [List.map_append]
 rw [hk] at h1
 exact h1
theorem NewB.form {w : World} {bs : List UInt8} {e : Ending} {w' : World} (h : NewB w bs e w') : ∃ A c,e = .returned (.slice A bs.length c) /\ OwnB w' w.heap.size (.slice A bs.length c) bs /\ Below w.heap.size w w':=by
 obtain ⟨v,rfl,hown,hb⟩:=h
 obtain ⟨A,c,rfl⟩:=hown.bs.form
 exact ⟨A,c,rfl,hown,hb⟩
theorem wpList_appB {w : World} {ops : Array Oper} {rest : List Oper} {o : Oper} {a : Act} {Q : Exit -> Act -> World -> Prop} (hgd : o.guard = none) (s x : Operand)
  (ho : o.op = .call { callee:=.builtin .append,args:=#[s,x],argTypes:=#[70,70] })
  (base : Nat) (v y : Value) (xs news : List UInt8) (hs : a.eval s = v) (hown : OwnB w base v xs) (hx : a.eval x = y) (hrd : Bs w y news)
  (hl : xs.length + news.length <= 140737488355328) (hbase : base <= w.heap.size)
  (h : ∀ v' w',OwnB w' base v' (xs ++ news) -> Below base w w' -> wpList Tryz.prog ops Q rest (a.put o.dst v') w') : wpList Tryz.prog ops Q (o :: rest) a w:=by
 obtain ⟨i0,hi,hz0,hz1,hz2⟩:=info_parts Tryz.info5
 refine wpList_app w hgd s x 70 ho base 5 i0 (.int .u8 0) 1 Tryz.underlying70 hi hz0 hz1 hz2 rfl v y (xs.map by8) (news.map by8) hs hown hx hrd (one8 news) (by simp;omega) (by simp;omega) hbase ?_
 intro v' w' h1 h2
 exact h v' w' (by unfold OwnB;rw [List.map_append];exact h1) h2
theorem wpList_appS {w : World} {ops : Array Oper} {rest : List Oper} {o : Oper} {a : Act} {Q : Exit -> Act -> World -> Prop} (hgd : o.guard = none) (sl x : Operand)
  (ho : o.op = .call { callee:=.builtin .append,args:=#[sl,x],argTypes:=#[70,9] })
  (base : Nat) (v : Value) (xs : List UInt8) (hs : a.eval sl = v) (hown : OwnB w base v xs) (s : ByteArray) (hx : a.eval x = .string s)
  (hl : xs.length + s.size <= 140737488355328) (hbase : base <= w.heap.size)
  (h : ∀ v' w',OwnB w' base v' (xs ++ s.data.toList) -> Below base w w' -> wpList Tryz.prog ops Q rest (a.put o.dst v') w') : wpList Tryz.prog ops Q (o :: rest) a w:=by
 obtain ⟨i0,hi,hz0,hz1,hz2⟩:=info_parts Tryz.info5
 refine wpList_appStr w hgd sl x 70 9 ho base 5 i0 Tryz.underlying70 Tryz.underlying9 hi hz0 hz1 hz2 v (xs.map by8) hs hown s hx (by simpa using hl) hbase ?_
 intro v' w' h1 h2
 exact h v' w' (by unfold OwnB;rw [List.map_append];exact h1) h2
end Go.Proofs.YtgeppafcemeidaaGreatDoor
namespace Go.Proofs.YtgeppafcemeidaaGreatDoor
open Go.RowKit
theorem Bs.alloc {w : World} {v : Value} {bs : List UInt8} (h : Bs w v bs) (o : Obj) : Bs (w.alloc o) v bs:=h.below ((Below.refl _ _).alloc (Nat.le_refl _) o)
end Go.Proofs.YtgeppafcemeidaaGreatDoor
namespace Go.Proofs.YtgeppafcemeidaaGreatDoor
open Go.RowKit
theorem Bs.at {w : World} {A : Option Addr} {n c : Nat} {bs : List UInt8} (h : Bs w (.slice A n c) bs) (k : Nat) (hk : k < bs.length) : ∃ ad,A = some ad /\ w.cell? (ad.add k) = some (.int .u8 ((bs.getD k 0).toNat : Int)):=by
 obtain ⟨A',c',hv,_,_,h3⟩:=h
 injection hv with e1 e2 e3
 subst e1
 rcases h3 with h3 | ⟨ad,rfl,h3⟩
 ·
  have:=congrArg List.length h3
  simp at this
  subst this
  simp at hk
 ·
  refine ⟨ad,rfl,h3 k _ ?_⟩
  simp [by8,List.getElem?_map,List.getElem?_eq_getElem hk]
end Go.Proofs.YtgeppafcemeidaaGreatDoor
namespace Go.Proofs.YtgeppafcemeidaaGreatDoor
open Go.RowKit
def strOf (l : List UInt8) : Value:=.string ⟨l.toArray⟩
theorem Bs.conv {w : World} {A : Option Addr} {n c : Nat} {l : List UInt8} (h : Bs w (.slice A n c) l) :
  (convert 70 9 (.slice A n c)).run Tryz.prog w = .ok (strOf l) w:=by
 obtain ⟨A',c',hv,_,_,h3⟩:=h
 injection hv with e1 e2 e3
 subst e1 e2 e3
 rcases h3 with h3 | ⟨ad,rfl,h3⟩
 ·
  have hl : l = []:=List.map_eq_nil_iff.1 h3
  subst hl
  rw [run_convert_bytes_string w 70 9 5 A _ c Tryz.underlying70 Tryz.underlying5 Tryz.underlying9]
  cases A with
  | none => simp [Conv.bytesToString];rfl
  | some ad =>
   have:=run_bytesToString (P:=Tryz.prog) w ad 0 c [] (by simp [loadCells,loadCellsFrom])
   exact this
 ·
  have:=run_convert_bytes_back (P:=Tryz.prog) w 70 9 5 ad c l Tryz.underlying70 Tryz.underlying5 Tryz.underlying9 (fun j hj => h3 j _ (by simp [by8,hj]))
  simpa [strOf] using this
end Go.Proofs.YtgeppafcemeidaaGreatDoor
namespace Go.Proofs.YtgeppafcemeidaaGreatDoor
open Go.RowKit
def Ch (g : Nat) (w w' : World) : Prop:=w.grownBy w' (some g)
section
variable {w w' w1 w2 : World} {g h : Nat}
theorem Ch.refl : Ch g w w:=World.grownBy.refl w _
theorem Ch.trans (a : Ch g w w1) (b : Ch g w1 w2) : Ch g w w2 :=
 ⟨b.os.trans a.os,b.tape.trans a.tape,b.output.trans a.output,Nat.le_trans a.size b.size,fun k hk hne => (b.block k (Nat.lt_of_lt_of_le hk a.size) hne).trans (a.block k hk hne)⟩
theorem Ch.of_below (a : Below w.heap.size w w') : Ch g w w':=⟨a.os,a.tape,a.output,a.size,fun k hk _ => a.block k hk⟩
theorem Ch.set (w : World) (g j : Nat) (u : Value) : Ch g w (w.setCell ⟨g,j,none⟩ u) :=
 ⟨rfl,rfl,rfl,by simp [World.setCell],fun k _ hne => Below.heap_setCell w ⟨g,j,none⟩ u k (fun e => hne (by rw [e]))⟩
theorem Ch.alloc (o : Obj) : Ch g w (w.alloc o):=Ch.of_below ((Below.refl _ _).alloc (Nat.le_refl _) o)
theorem Ch.below {B : Nat} (a : Ch g w w') (hg : B <= g) (hB : B <= w.heap.size) : Below B w w' :=
 ⟨a.os,a.tape,a.output,a.size,fun k hk => a.block k (by omega) (fun e => by injection e;omega)⟩
theorem Ch.cell {a : Addr} {u : Value} (c : Ch g w w') (h : w.cell? a = some u) (hne : a.block ≠ g) : w'.cell? a = some u :=
 World.grownBy.cell c h (fun e => hne (by injection e))
theorem Ch.obj {k : Nat} {o : Obj} (c : Ch g w w') (h : w.heap[k]? = some o) (hne : k ≠ g) : w'.heap[k]? = some o :=
 (c.block k (Array.getElem?_eq_some_iff.1 h).1 (fun e => hne (by injection e))).trans h
end
theorem cellAt {w : World} {g : Nat} {cs : Array Value} {t : TypeId} {fr : Nat × Nat} (h : w.heap[g]? = some (.cells cs t fr)) (i : Nat) : w.cell? ⟨g,i,none⟩ = cs[i]?:=cell_of_row w g i cs t fr h
theorem freeAt {w : World} {g : Nat} {cs : Array Value} {t : TypeId} (h : w.heap[g]? = some (.cells cs t (0,0))) (i : Nat) : w.frozen? ⟨g,i,none⟩ = false:=frozen_of_row w g i cs t h
def Sc (w : World) (g : Nat) (s : ByteArray) (n : Nat) (l : List UInt8) : Prop :=
 w.heap[g]? = some (.cells #[.string s,.int .i64 (n : Int)] 82 (0,0)) /\ n <= s.size /\ s.data.toList.drop n = l /\ s.size <= 16384
section
variable {w w' : World} {g n : Nat} {s : ByteArray} {l : List UInt8}
theorem Sc.lt (h : Sc w g s n l) : g < w.heap.size:=(Array.getElem?_eq_some_iff.1 h.1).1
theorem Sc.len (h : Sc w g s n l) : l.length + n = s.size:=by
 have h1:=h.2.1
 have h2:=congrArg List.length h.2.2.1
 simp only [List.length_drop,Array.length_toList] at h2
 have : s.data.size = s.size:=rfl
 omega
theorem Sc.below (h : Sc w g s n l) (hb : Below w.heap.size w w') : Sc w' g s n l:=⟨(hb.block g h.lt).trans h.1,h.2⟩
theorem Sc.cell0 (h : Sc w g s n l) : w.cell? ⟨g,0,none⟩ = some (.string s):=by have:=cellAt h.1 0;simpa using this
theorem Sc.cell1 (h : Sc w g s n l) : w.cell? ⟨g,1,none⟩ = some (.int .i64 (n : Int)):=by have:=cellAt h.1 1;simpa using this
theorem Sc.free (h : Sc w g s n l) (i : Nat) : w.frozen? ⟨g,i,none⟩ = false:=freeAt h.1 i
theorem Sc.get {c : UInt8} {r : List UInt8} (h : Sc w g s n (c :: r)) : ∃ hn : n < s.size,s[n] = c:=by
 have hl:=h.len
 simp only [List.length_cons] at hl
 refine ⟨by omega,?_⟩
 have h1 : (s.data.toList.drop n)[0]? = some c:=by rw [h.2.2.1];rfl
 rw [List.getElem?_drop,Nat.add_zero,List.getElem?_eq_some_iff] at h1
 obtain ⟨hi,h1⟩:=h1
 rw [<- h1];rfl
theorem Sc.step {c : UInt8} {r : List UInt8} (h : Sc w g s n (c :: r)) : Sc (w.setCell ⟨g,1,none⟩ (.int .i64 ((n : Int) + 1))) g s (n + 1) r:=by
 obtain ⟨h1,h2,h3,h4⟩:=h
 have hl : (c :: r).length + n = s.size:=Sc.len ⟨h1,h2,h3,h4⟩
 simp only [List.length_cons] at hl
 refine ⟨?_,by omega,?_,h4⟩
 ·
  have hlt:=(Array.getElem?_eq_some_iff.1 h1).1
  have he:=(Array.getElem?_eq_some_iff.1 h1).2
  simp only [World.setCell]
  rw [Array.getElem?_modify]
  simp only [if_true]
  rw [h1]
  simp
 ·
  rw [<- List.drop_drop,h3];rfl
end
theorem drewN_drewN (w : World) (a b : Nat) : (w.drewN a).drewN b = w.drewN (a + b):=by simp [World.drewN,Nat.add_assoc]
theorem below_draws {B : Nat} {w : World} (n : Nat) : Below B w (w.drewN n):=⟨rfl,rfl,rfl,Nat.le_refl _,fun _ _ => rfl⟩
def rn (l : List UInt8) : Int:=match l with
 | [] => -1
 | c :: _ => (c.toNat : Int)
def hdp (p : UInt8 -> Bool) (l : List UInt8) : Bool:=match l with
 | [] => false
 | c :: _ => p c
theorem peek_any (g n : Nat) (s : ByteArray) (l : List UInt8) (w : World) (h : Sc w g s n l) :
  Calls Tryz.prog 126 #[.pointer (some ⟨g,0,none⟩)] w fun e w' => e = .returned (.int .i32 (rn l)) /\ ∃ q,w' = w.drewN q:=by
 have hc0:=h.cell0
 have hc1:=h.cell1
 have hlen:=h.len
 have hsz:=h.2.2.2
 cases l with
 | nil =>
  simp only [List.length_nil] at hlen
  have hn : n = s.size:=by omega
  subst hn
  clear h hlen
  go_enter Tryz.func126,Tryz.ntmps126
  go_wp2_with fail
  go_quiet (fail)
  go_wp2_with fail
  go_ret
  exact ⟨rfl,_,rfl⟩
 | cons c r =>
  obtain ⟨hn,hg⟩:=h.get
  have hne : ((n : Int) == (s.size : Int)) = false:=by simp;omega
  have hr : Hid (rn (c :: r) = (c.toNat : Int)):=rfl
  have hg2:=hid hg
  have hcn:=c.toNat_lt
  clear h hlen
  go_enter Tryz.func126,Tryz.ntmps126
  go_wp2_with fail
  go_quiet (fail)
  go_wp2_with fail
  go_quiet (fail)
  go_wp2_with fail
  go_ret
  exact ⟨rfl,_,drewN_drewN _ _ _⟩
theorem Sc.draws {w : World} {g n : Nat} {s : ByteArray} {l : List UInt8} (h : Sc w g s n l) (q : Nat) : Sc (w.drewN q) g s n l:=h
theorem Ch.draws {w : World} {g : Nat} (q : Nat) : Ch g w (w.drewN q):=Ch.of_below (below_draws q)
theorem read_end (g n : Nat) (s : ByteArray) (w : World) (h : Sc w g s n []) :
  Calls Tryz.prog 167 #[.pointer (some ⟨g,0,none⟩)] w fun e w' => e = .returned (.int .i32 (-1)) /\ Sc w' g s n [] /\ Ch g w w':=by
 have C:=hid (peek_any g n s [] w h)
 have H:=hid h
 clear h
 go_enter Tryz.func167,Tryz.ntmps167
 go_wp2_with fail
 refine C.out.mono ?_
 rintro e w' ⟨rfl,q,rfl⟩
 simp only [rn]
 go_wp2_with fail
 go_ret
 exact ⟨rfl,H.out.draws _,Ch.draws _⟩
theorem read_at (g n : Nat) (s : ByteArray) (c : UInt8) (r : List UInt8) (w : World) (h : Sc w g s n (c :: r)) :
  Calls Tryz.prog 167 #[.pointer (some ⟨g,0,none⟩)] w fun e w' => e = .returned (.int .i32 (c.toNat : Int)) /\ Sc w' g s (n + 1) r /\ Ch g w w':=by
 have C:=hid (peek_any g n s (c :: r) w h)
 have H:=hid h
 have hc1:=h.cell1
 have hf:=h.free 1
 have hcn:=c.toNat_lt
 have hne : ((c.toNat : Int) != -1) = true:=by simp
 have hsz : (n : Int) <= 16384:=by have:=h.2.1;have:=h.2.2.2;omega
 clear h
 go_enter Tryz.func167,Tryz.ntmps167
 go_wp2_with fail
 refine C.out.mono ?_
 rintro e w' ⟨rfl,q,rfl⟩
 simp only [rn]
 have hc2 : (w.drewN q).cell? ⟨g,1,none⟩ = some (.int .i64 (n : Int)):=hc1
 have hf2 : (w.drewN q).frozen? ⟨g,1,none⟩ = false:=hf
 go_wp2_with fail
 go_ret
 exact ⟨rfl,(H.out.draws q).step,(Ch.draws q).trans (Ch.set _ _ _ _)⟩
end Go.Proofs.YtgeppafcemeidaaGreatDoor
namespace Go.Proofs.YtgeppafcemeidaaGreatDoor
namespace Sy
open Tk (T)
inductive N where
 | mk (op : Int) (nm : List UInt8) (n : Int) (t : List UInt8) (l : List N)
namespace N
def op : N -> Int | .mk op _ _ _ _ => op
def nm : N -> List UInt8 | .mk _ nm _ _ _ => nm
def n : N -> Int | .mk _ _ n _ _ => n
def t : N -> List UInt8 | .mk _ _ _ t _ => t
def l : N -> List N | .mk _ _ _ _ l => l
end N
def nd (op : Int) (l : List N) : N:=.mk op [] 0 [] l
def nmd (op : Int) (s : List UInt8) (l : List N) : N:=.mk op s 0 [] l
inductive R where
 | ok (a : N) (r : List T)
 | bad (r : List T)
inductive NT where
 | chain (v : Nat) | loop (v : Nat) (a : N) | neg | cmp | unary | post | postL (a : N) | prim | fcall (op : Int) | pair | lit | param
 | elems (last : List UInt8) (e : Nat) | elemL (last : List UInt8) (e : Nat) (acc : List N)
 | prog | progL (acc : List N) | decl | global | const | func | handler (op : Int) | block | blockL (acc : List N) | stmt | closed (op : Int) | assign (op : Int)
 | cond | result | attempt | comp | choice | casesL (acc : List N) | branch
inductive Pg where
 | ret (r : R)
 | call (nt : NT) (l : List T) (k : R -> Pg)
def cl (nt : NT) (l : List T) (k : N -> List T -> Pg) : Pg:=.call nt l fun r => match r with
 | .ok a r => k a r
 | .bad r => .ret (.bad r)
def fx (l : List T) : List UInt8:=match l with
 | [] => []
 | t :: _ => if t.k = 2 \/ t.k = 5 then t.t else []
def hd (l : List T) : T:=l.headD ⟨0,0,[],0⟩
def tk (s : List UInt8) (l : List T) (k : List T -> Pg) : Pg:=if fx l = s then k l.tail else .ret (.bad l)
def nm (l : List T) (k : List UInt8 -> List T -> Pg) : Pg:=if (hd l).k = 1 then k (hd l).t l.tail else .ret (.bad l)
def inf (s : List UInt8) : Int × Nat :=
 if s = [111,114] then (27,1) else if s = [97,110,100] then (26,2) else if s = [60] then (20,3) else if s = [60,61] then (21,3) else if s = [62] then (22,3) else if s = [62,61] then (23,3)
 else if s = [61,61] then (24,3) else if s = [33,61] then (25,3) else if s = [43] then (18,4) else if s = [45] then (19,4) else if s = [42] then (15,5) else if s = [47] then (16,5) else if s = [37] then (17,5) else (0,0)
def opnd (v : Nat) : NT:=if v = 1 then .chain 2 else if v = 2 then .neg else if v = 4 then .chain 5 else .unary
def elm (e : Nat) : NT:=if e = 0 then .chain 1 else if e = 1 then .pair else .param
def assigns (l : List T) : Bool:=decide ((hd l).k = 1) && decide (fx l.tail = [61])
def body (nt : NT) (l : List T) : Pg:=match nt with
 | .chain v => cl (opnd v) l fun a r => .call (.loop v a) r .ret
 | .loop v a => if (inf (fx l)).2 = v then cl (opnd v) l.tail fun b r => .call (.loop v (nd (inf (fx l)).1 [a,b])) r .ret else .ret (.ok a l)
 | .neg => if fx l = [110,111,116] then cl .neg l.tail fun a r => .ret (.ok (nd 13 [a]) r) else .call .cmp l .ret
 | .cmp => cl (.chain 4) l fun a r => if (inf (fx r)).2 = 3 then cl (.chain 4) r.tail fun b q => .ret (.ok (nd (inf (fx r)).1 [a,b]) q) else .ret (.ok a r)
 | .unary => if fx l = [45] then cl .unary l.tail fun a r => .ret (.ok (nd 14 [a]) r) else if fx l = [97,119,97,105,116] then cl .unary l.tail fun a r => .ret (.ok (nd 12 [a]) r)
  else if fx l = [103,111] then .call (.fcall 11) l.tail .ret else .call .post l .ret
 | .post => cl .prim l fun a r => .call (.postL a) r .ret
 | .postL a => if fx l = [46] then nm l.tail fun s r => .call (.postL (nmd 29 s [a])) r .ret
  else if fx l = [91] then cl (.chain 1) l.tail fun b r => tk [93] r fun r => .call (.postL (nd 28 [a,b])) r .ret
  else .ret (.ok a l)
 | .prim => if (hd l).k = 1 then (if fx l.tail = [40] then .call (.fcall 10) l .ret else .ret (.ok (nmd 6 (hd l).t []) l.tail))
  else if fx l = [91] then cl (.elems [93] 0) l.tail fun k r => .ret (.ok (nd 7 k.l) r)
  else if fx l = [123] then cl (.elems [125] 1) l.tail fun k r => .ret (.ok (nd 8 k.l) r)
  else if fx l = [40] then cl (.chain 1) l.tail fun a r => tk [41] r fun r => .ret (.ok a r)
  else .call .lit l .ret
 | .fcall op => nm l fun s r => tk [40] r fun r => cl (.elems [41] 0) r fun k r => .ret (.ok (nmd op s k.l) r)
 | .pair => if (hd l).k = 4 then tk [58] l.tail fun r => cl (.chain 1) r fun a r => .ret (.ok (.mk 9 [] 0 (hd l).t [a]) r) else .ret (.bad l)
 | .lit => if (hd l).k = 3 then .ret (.ok (.mk 4 [] (hd l).n [] []) l.tail) else if (hd l).k = 4 then .ret (.ok (.mk 5 [] 0 (hd l).t []) l.tail)
  else if fx l = [116,114,117,101] then .ret (.ok (nd 2 []) l.tail) else if fx l = [102,97,108,115,101] then .ret (.ok (nd 3 []) l.tail) else tk [110,117,108,108] l fun r => .ret (.ok (nd 1 []) r)
 | .param => nm l fun s r => .ret (.ok (nmd 6 s []) r)
 | .elems last e => if fx l = last then .ret (.ok (nd 0 []) l.tail) else cl (elm e) l fun a r => .call (.elemL last e [a]) r .ret
 | .elemL last e acc => if fx l = [44] then cl (elm e) l.tail fun a r => .call (.elemL last e (acc ++ [a])) r .ret else tk last l fun r => .ret (.ok (nd 0 acc) r)
 | .prog => .call (.progL []) l .ret
 | .progL acc => if (hd l).k = 0 then .ret (.ok (nd 60 acc) l) else cl .decl l fun a r => .call (.progL (acc ++ [a])) r .ret
 | .decl => if fx l = [118,97,114] then .call .global l.tail .ret else if fx l = [102,117,110,99] then .call .func l.tail .ret
  else tk [111,110] l fun r => if fx r = [115,105,103,110,97,108] then .call (.handler 63) r.tail .ret else if fx r = [113,117,101,114,121] then .call (.handler 64) r.tail .ret
   else tk [117,112,100,97,116,101] r fun r => .call (.handler 65) r .ret
 | .global => nm l fun s r => tk [61] r fun r => cl .const r fun a r => tk [59] r fun r => .ret (.ok (nmd 61 s [a]) r)
 | .const => if fx l = [45] then (if (hd l.tail).k = 3 then cl .lit l.tail fun a r => .ret (.ok (nd 14 [a]) r) else .ret (.bad l.tail)) else .call .lit l .ret
 | .func => nm l fun s r => tk [40] r fun r => cl (.elems [41] 2) r fun k r => cl .block r fun b r => .ret (.ok (nmd 62 s (k.l ++ [b])) r)
 | .handler op => nm l fun s r => tk [40] r fun r => nm r fun t r => tk [41] r fun r =>
  if op = 65 /\ fx r = [99,104,101,99,107] then cl .block r.tail fun a r => cl .block r fun b r => .ret (.ok (.mk op s 0 t [a,b]) r)
  else cl .block r fun b r => .ret (.ok (.mk op s 0 t [b]) r)
 | .block => tk [123] l fun r => .call (.blockL []) r .ret
 | .blockL acc => if fx l = [125] then .ret (.ok (nd 53 acc) l.tail) else cl .stmt l fun a r => .call (.blockL (acc ++ [a])) r .ret
 | .stmt => if fx l = [108,101,116] then .call (.assign 40) l.tail .ret else if fx l = [105,102] then .call .cond l.tail .ret
  else if fx l = [119,104,105,108,101] then cl (.chain 1) l.tail fun a r => cl .block r fun b r => .ret (.ok (nd 43 [a,b]) r)
  else if fx l = [114,101,116,117,114,110] then .call .result l.tail .ret
  else if fx l = [116,104,114,111,119] then .call (.closed 45) l.tail .ret
  else if fx l = [116,114,121] then .call .attempt l.tail .ret
  else if fx l = [115,97,103,97] then cl .block l.tail fun a r => .ret (.ok (nd 47 [a]) r)
  else if fx l = [117,110,100,111] then .call .comp l.tail .ret
  else if fx l = [115,101,108,101,99,116] then .call .choice l.tail .ret
  else if assigns l = true then .call (.assign 41) l .ret else .call (.closed 52) l .ret
 | .closed op => cl (.chain 1) l fun a r => tk [59] r fun r => .ret (.ok (nd op [a]) r)
 | .assign op => nm l fun s r => tk [61] r fun r => cl (.closed op) r fun a r => .ret (.ok (.mk a.op s a.n a.t a.l) r)
 | .cond => cl (.chain 1) l fun a r => cl .block r fun b r =>
  if fx r = [101,108,115,101] then
   (if fx r.tail = [105,102] then cl .cond r.tail.tail fun c r => .ret (.ok (nd 42 [a,b,c]) r) else cl .block r.tail fun c r => .ret (.ok (nd 42 [a,b,c]) r))
  else .ret (.ok (nd 42 [a,b]) r)
 | .result => if fx l = [59] then .ret (.ok (nd 44 []) l.tail) else .call (.closed 44) l .ret
 | .attempt => cl .block l fun a r => tk [99,97,116,99,104] r fun r => nm r fun s r => cl .block r fun b r => .ret (.ok (nmd 46 s [a,b]) r)
 | .comp => cl (.fcall 48) l fun a r => tk [59] r fun r => .ret (.ok a r)
 | .choice => tk [123] l fun r => .call (.casesL []) r .ret
 | .casesL acc => if acc.length < 16 /\ fx l = [99,97,115,101] then cl .branch l.tail fun a r => .call (.casesL (acc ++ [a])) r .ret
  else if fx l = [101,108,115,101] then cl .block l.tail fun b r => tk [125] r fun r => .ret (.ok (nd 49 (acc ++ [nd 51 [b]])) r)
  else if acc = [] then .ret (.bad l) else tk [125] l fun r => .ret (.ok (nd 49 acc) r)
 | .branch => if assigns l = true then cl (.chain 1) l.tail.tail fun a r => cl .block r fun b r => .ret (.ok (nmd 50 (hd l).t [a,b]) r)
  else cl (.chain 1) l fun a r => cl .block r fun b r => .ret (.ok (nmd 50 [] [a,b]) r)
inductive Run : Pg -> R -> Prop
 | ret (r : R) : Run (.ret r) r
 | call {nt : NT} {l : List T} {k : R -> Pg} {r1 r : R} : Run (body nt l) r1 -> Run (k r1) r -> Run (.call nt l k) r
def Ev (nt : NT) (l : List T) (r : R) : Prop:=Run (body nt l) r
theorem Ev.run {nt : NT} {l : List T} {r : R} (h : Ev nt l r) : Run (.call nt l .ret) r:=Run.call h (.ret _)
theorem cl_bad {nt : NT} {l r : List T} {k : N -> List T -> Pg} (h : Ev nt l (.bad r)) : Run (cl nt l k) (.bad r):=Run.call h (.ret _)
theorem cl_ok {nt : NT} {l r : List T} {k : N -> List T -> Pg} {a : N} {x : R} (h : Ev nt l (.ok a r)) (h2 : Run (k a r) x) : Run (cl nt l k) x:=Run.call h h2
def ev : Nat -> Pg -> Option R
 | 0,_ => none
 | _ + 1,.ret r => some r
 | f + 1,.call nt l k => match ev f (body nt l) with
  | none => none
  | some r => ev f (k r)
theorem ev_run : ∀ (f : Nat) (p : Pg) (r : R),ev f p = some r -> Run p r
 | 0,_,_,h => by simp [ev] at h
 | _ + 1,.ret r',r,h => by simp [ev] at h;subst h;exact .ret _
 | f + 1,.call nt l k,r,h => by
  rw [ev] at h
  cases h1 : ev f (body nt l) with
  | none => rw [h1] at h;simp at h
  | some r1 => rw [h1] at h;exact .call (ev_run f _ _ h1) (ev_run f _ _ h)
def Wp (I : NT -> List T -> R -> Prop) : Pg -> (R -> Prop) -> Prop
 | .ret r,Q => Q r
 | .call nt l k,Q => ∀ r1,I nt l r1 -> Wp I (k r1) Q
theorem wp_run {I : NT -> List T -> R -> Prop} (hI : ∀ nt l,Wp I (body nt l) (I nt l)) {p : Pg} {r : R} (h : Run p r) : ∀ Q,Wp I p Q -> Q r:=by
 induction h with
 | ret r => intro Q h;exact h
 | call h1 h2 ih1 ih2 => intro Q h;exact ih2 Q (h _ (ih1 _ (hI _ _)))
theorem ev_inv {I : NT -> List T -> R -> Prop} (hI : ∀ nt l,Wp I (body nt l) (I nt l)) {nt : NT} {l : List T} {r : R} (h : Ev nt l r) : I nt l r:=wp_run hI h _ (hI nt l)
end Sy
end Go.Proofs.YtgeppafcemeidaaGreatDoor
namespace Go.Proofs.YtgeppafcemeidaaGreatDoor
open Go.RowKit
open Sy (N NT R Ev Run Pg)
def RdN (w : World) (S : Nat -> Prop) (size : Nat) (v : Value) (n : Nat) (xs : List Value) : Prop :=
 ∃ (A : Option Addr) (c : Nat),v = .slice A n c /\ n <= c /\ c <= maxLen /\ xs.length = n * size /\
  (n = 0 \/ ∃ b o,A = some ⟨b,o,none⟩ /\ S b /\ ∀ j u,xs[j]? = some u -> w.cell? ⟨b,o + j,none⟩ = some u)
def Ok (op : Int) (nm : List UInt8) (n : Int) (t : List UInt8) (k : Nat) : Prop :=
 -9223372036854775808 <= op /\ op <= 9223372036854775807 /\ -9223372036854775808 <= n /\ n <= 9223372036854775807 /\ nm.length <= 9223372036854775807 /\ t.length <= 9223372036854775807 /\ k * 72 <= 140737488351232
mutual
def NC (w : World) (S : Nat -> Prop) : N -> List Value -> Prop
 | .mk op nm n t l,cs => ∃ iv ics,cs = [.int .i64 op,.string ⟨nm.toArray⟩,.int .i64 n,.string ⟨t.toArray⟩,iv] /\ Ok op nm n t l.length /\ RdN w S 5 iv l.length ics /\ NsC w S l ics
def NsC (w : World) (S : Nat -> Prop) : List N -> List Value -> Prop
 | [],cs => cs = []
 | v :: l,cs => ∃ c1 c2,cs = c1 ++ c2 /\ NC w S v c1 /\ NsC w S l c2
end
def NA (w : World) (S : Nat -> Prop) (a : Value) (v : N) : Prop:=∃ cs,a = .agg cs.toArray /\ NC w S v cs
theorem N.ind {P : N -> Prop} (h : ∀ op nm n t l,(∀ v ∈ l,P v) -> P (.mk op nm n t l)) : ∀ v,P v
 | .mk op nm n t l => h op nm n t l (fun v hv => N.ind h v)
termination_by v => SizeOf.sizeOf v
decreasing_by
 have:=List.sizeOf_lt_of_mem hv
 simp;omega
section
variable {w w' : World} {S S' : Nat -> Prop} {size n : Nat} {v : Value} {xs cs : List Value}
theorem NC_mk (op : Int) (nm : List UInt8) (n : Int) (t : List UInt8) (l : List N) (cs : List Value) :
  NC w S (.mk op nm n t l) cs = ∃ iv ics,cs = [.int .i64 op,.string ⟨nm.toArray⟩,.int .i64 n,.string ⟨t.toArray⟩,iv] /\ Ok op nm n t l.length /\ RdN w S 5 iv l.length ics /\ NsC w S l ics:=by
 rw [NC]
theorem NsC_nil : NsC w S [] cs = (cs = []):=by rw [NsC]
theorem NsC_cons (u : N) (l : List N) : NsC w S (u :: l) cs = ∃ c1 c2,cs = c1 ++ c2 /\ NC w S u c1 /\ NsC w S l c2:=by rw [NsC]
theorem RdN.keep (h : RdN w S size v n xs) (hS : ∀ b,S b -> b < w.heap.size -> S' b) (hk : ∀ (p : Addr) u,S p.block -> w.cell? p = some u -> w'.cell? p = some u) (hz : 0 < size) : RdN w' S' size v n xs:=by
 obtain ⟨A,c,rfl,h1,h2,h3,h4⟩:=h
 refine ⟨A,c,rfl,h1,h2,h3,?_⟩
 rcases h4 with h4 | ⟨b,o,rfl,hb,hc⟩
 ·
  exact .inl h4
 ·
  rcases Nat.eq_zero_or_pos n with h0 | h0
  ·
   exact .inl h0
  ·
   have hp : 0 < xs.length:=by rw [h3];exact Nat.mul_pos h0 hz
   have:=hc 0 xs[0] (List.getElem?_eq_getElem hp)
   have hlt : b < w.heap.size:=World.block_lt_of_cell? w _ this
   exact .inr ⟨b,o,rfl,hS b hb hlt,fun j u hj => hk _ u hb (hc j u hj)⟩
theorem RdN.none_ : RdN w S size (.slice none 0 0) 0 []:=⟨none,0,rfl,Nat.le_refl _,Nat.zero_le _,by simp,.inl rfl⟩
theorem RdN.of_own {base : Nat} {e : TypeId} (h : w.ownsRow base e size v n xs) (hS : ∀ k,v.ownBlock = some k -> S k) : RdN w S size v n xs:=by
 have hform:=h.2
 rcases hform with ⟨rfl,h0⟩ | ⟨g,cap,cur,rfl,hb,hg,h1,h2,h3,h4⟩
 ·
  subst h0
  have : xs = []:=List.eq_nil_of_length_eq_zero (by rw [h.1];simp)
  subst this
  exact RdN.none_
 ·
  refine ⟨_,cap,rfl,h1,h2,h.1,.inr ⟨g,0,rfl,hS g rfl,fun j u hj => ?_⟩⟩
  have:=World.ownsRow.cells h rfl j u hj
  have e : (⟨g,0,none⟩ : Addr).add j = ⟨g,0 + j,none⟩:=by unfold Addr.add;split <;> simp_all
  rw [e] at this
  exact this
theorem NsC_keep {l : List N} (h : ∀ u ∈ l,∀ cs,NC w S u cs -> NC w' S' u cs) : ∀ cs,NsC w S l cs -> NsC w' S' l cs:=by
 induction l with
 | nil => intro cs hc;rw [NsC_nil] at hc |-;exact hc
 | cons u l ih =>
  intro cs hc
  rw [NsC_cons] at hc |-
  obtain ⟨c1,c2,e,h1,h2⟩:=hc
  exact ⟨c1,c2,e,h u (by simp) c1 h1,ih (fun x hx => h x (by simp [hx])) c2 h2⟩
theorem NC.keep (hS : ∀ b,S b -> b < w.heap.size -> S' b) (hk : ∀ (p : Addr) u,S p.block -> w.cell? p = some u -> w'.cell? p = some u) (v : N) : ∀ cs,NC w S v cs -> NC w' S' v cs:=by
 induction v using N.ind with
 | h op nm n t l ih =>
  intro cs h
  rw [NC_mk] at h |-
  obtain ⟨iv,ics,e,ho,h1,h2⟩:=h
  exact ⟨iv,ics,e,ho,h1.keep hS hk (by omega),NsC_keep ih ics h2⟩
theorem NsC.keep {l : List N} (hS : ∀ b,S b -> b < w.heap.size -> S' b) (hk : ∀ (p : Addr) u,S p.block -> w.cell? p = some u -> w'.cell? p = some u) {cs : List Value} (h : NsC w S l cs) : NsC w' S' l cs :=
 NsC_keep (fun u _ => NC.keep hS hk u) cs h
theorem NA.keep {a : Value} {v : N} (h : NA w S a v) (hS : ∀ b,S b -> b < w.heap.size -> S' b) (hk : ∀ (p : Addr) u,S p.block -> w.cell? p = some u -> w'.cell? p = some u) : NA w' S' a v:=by
 obtain ⟨cs,rfl,hc⟩:=h
 exact ⟨cs,rfl,hc.keep hS hk⟩
theorem keepCh {g : Nat} (c : Ch g w w') (hS : ¬ S g) : ∀ (p : Addr) u,S p.block -> w.cell? p = some u -> w'.cell? p = some u :=
 fun p u hp hc => c.cell hc (fun e => hS (e ▸ hp))
theorem keepB (hb : Below w.heap.size w w') : ∀ (p : Addr) u,S p.block -> w.cell? p = some u -> w'.cell? p = some u :=
 fun p _ _ hc => (hb.cell (World.block_lt_of_cell? w p hc)).trans hc
theorem NA.ch {g : Nat} {a : Value} {v : N} (h : NA w S a v) (c : Ch g w w') (hS : ¬ S g) : NA w' S a v:=h.keep (fun _ hs _ => hs) (keepCh c hS)
theorem NA.below {a : Value} {v : N} (h : NA w S a v) (hb : Below w.heap.size w w') : NA w' S a v:=h.keep (fun _ hs _ => hs) (keepB hb)
theorem NA.more {a : Value} {v : N} (h : NA w S a v) (hS : ∀ b,S b -> b < w.heap.size -> S' b) : NA w S' a v:=h.keep hS (fun _ _ _ hc => hc)
theorem NC.below {v : N} (h : NC w S v cs) (hb : Below w.heap.size w w') : NC w' S v cs:=NC.keep (fun _ hs _ => hs) (keepB hb) v cs h
theorem NsC.below {l : List N} (h : NsC w S l cs) (hb : Below w.heap.size w w') : NsC w' S l cs:=NsC.keep (fun _ hs _ => hs) (keepB hb) h
theorem RdN.below (h : RdN w S size v n xs) (hb : Below w.heap.size w w') (hz : 0 < size) : RdN w' S size v n xs:=h.keep (fun _ hs _ => hs) (keepB hb) hz
theorem NC.len5 {v : N} (h : NC w S v cs) : cs.length = 5:=by
 match v with
 | .mk op nm n t l =>
  rw [NC_mk] at h
  obtain ⟨iv,ics,rfl,_⟩:=h
  rfl
theorem NsC.len : ∀ {l : List N} {cs : List Value},NsC w S l cs -> cs.length = l.length * 5
 | [],cs,h => by rw [NsC_nil] at h;subst h;rfl
 | u :: l,cs,h => by
  rw [NsC_cons] at h
  obtain ⟨c1,c2,rfl,h1,h2⟩:=h
  have:=NC.len5 h1
  have:=NsC.len h2
  simp;omega
theorem NsC.app : ∀ {l : List N} {cs : List Value} {l' : List N} {cs' : List Value},NsC w S l cs -> NsC w S l' cs' -> NsC w S (l ++ l') (cs ++ cs')
 | [],cs,l',cs',h,h' => by rw [NsC_nil] at h;subst h;exact h'
 | u :: l,cs,l',cs',h,h' => by
  rw [NsC_cons] at h
  obtain ⟨c1,c2,rfl,h1,h2⟩:=h
  rw [List.cons_append,NsC_cons]
  exact ⟨c1,c2 ++ cs',by simp,h1,NsC.app h2 h'⟩
theorem NsC.one {u : N} {cs : List Value} (h : NC w S u cs) : NsC w S [u] cs:=by
 rw [NsC_cons]
 exact ⟨cs,[],by simp,h,by rw [NsC_nil]⟩
theorem NsC.nil_ : NsC w S [] []:=by rw [NsC_nil]
theorem RdN.form (h : RdN w S size v n xs) : ∃ A c,v = .slice A n c /\ n <= c /\ c <= 9223372036854775807:=by
 obtain ⟨A,c,rfl,h1,h2,_⟩:=h
 exact ⟨A,c,rfl,h1,by unfold maxLen at h2;omega⟩
theorem NC.form {v : N} (h : NC w S v cs) : ∃ (A : Option Addr) (c : Nat),cs = [.int .i64 v.op,.string ⟨v.nm.toArray⟩,.int .i64 v.n,.string ⟨v.t.toArray⟩,.slice A v.l.length c]:=by
 match v with
 | .mk op nm n t l =>
  rw [NC_mk] at h
  obtain ⟨iv,ics,rfl,_,h1,_⟩:=h
  obtain ⟨A,c,rfl,_⟩:=h1.form
  exact ⟨A,c,rfl⟩
theorem NC.one {v : N} (h : NC w S v cs) : ∀ u ∈ cs,u.oneCell' = true:=by
 obtain ⟨A,c,rfl⟩:=h.form
 intro u hu
 simp only [List.mem_cons,List.not_mem_nil,or_false] at hu
 rcases hu with rfl | rfl | rfl | rfl | rfl <;> rfl
def KR (w : World) (S : Nat -> Prop) (v : Value) (l : List N) : Prop:=∃ xs,RdN w S 5 v l.length xs /\ NsC w S l xs
theorem KR.nil_ : KR w S (.slice none 0 0) []:=⟨[],RdN.none_,NsC.nil_⟩
theorem NA.open_ {a : Value} {v : N} (h : NA w S a v) : ∃ A c,a = .agg #[.int .i64 v.op,.string ⟨v.nm.toArray⟩,.int .i64 v.n,.string ⟨v.t.toArray⟩,.slice A v.l.length c] /\ Ok v.op v.nm v.n v.t v.l.length /\ KR w S (.slice A v.l.length c) v.l:=by
 obtain ⟨cs,rfl,hc⟩:=h
 match v with
 | .mk op nm n t l =>
  rw [NC_mk] at hc
  obtain ⟨iv,ics,rfl,ho,h1,h2⟩:=hc
  obtain ⟨A,c,rfl,_⟩:=h1.form
  exact ⟨A,c,rfl,ho,ics,h1,h2⟩
theorem NA.mk_ {op n : Int} {nm t : List UInt8} {l : List N} {iv : Value} (ho : Ok op nm n t l.length) (h : KR w S iv l) : NA w S (.agg #[.int .i64 op,.string ⟨nm.toArray⟩,.int .i64 n,.string ⟨t.toArray⟩,iv]) (.mk op nm n t l):=by
 obtain ⟨xs,h1,h2⟩:=h
 exact ⟨[.int .i64 op,.string ⟨nm.toArray⟩,.int .i64 n,.string ⟨t.toArray⟩,iv],rfl,by rw [NC_mk];exact ⟨iv,xs,rfl,ho,h1,h2⟩⟩
theorem KR.keep {l : List N} (h : KR w S v l) (hS : ∀ b,S b -> b < w.heap.size -> S' b) (hk : ∀ (p : Addr) u,S p.block -> w.cell? p = some u -> w'.cell? p = some u) : KR w' S' v l:=by
 obtain ⟨xs,h1,h2⟩:=h
 exact ⟨xs,h1.keep hS hk (by omega),h2.keep hS hk⟩
theorem KR.ch {g : Nat} {l : List N} (h : KR w S v l) (c : Ch g w w') (hS : ¬ S g) : KR w' S v l:=h.keep (fun _ hs _ => hs) (keepCh c hS)
theorem KR.more {l : List N} (h : KR w S v l) (hS : ∀ b,S b -> b < w.heap.size -> S' b) : KR w S' v l:=h.keep hS (fun _ _ _ hc => hc)
theorem KR.form {l : List N} (h : KR w S v l) : ∃ A c,v = .slice A l.length c:=by
 obtain ⟨xs,h1,_⟩:=h
 obtain ⟨A,c,e,_⟩:=h1.form
 exact ⟨A,c,e⟩
def OwnK (w : World) (base : Nat) (v : Value) (l : List N) : Prop:=∃ xs,w.ownsRow base 25 5 v l.length xs /\ NsC w (fun b => base <= b /\ v.ownBlock ≠ some b) l xs
theorem OwnK.kr {base : Nat} {l : List N} (h : OwnK w base v l) : KR w (fun b => base <= b) v l:=by
 obtain ⟨xs,h1,h2⟩:=h
 exact ⟨xs,RdN.of_own h1 (fun k hk => (World.ownsRow.lt h1 k hk).1),h2.keep (fun _ hs _ => hs.1) (fun _ _ _ hc => hc)⟩
theorem OwnK.nil_ {base : Nat} : OwnK w base (.slice none 0 0) []:=⟨[],World.ownsRow_nil _ _ _ _,NsC.nil_⟩
theorem KR.newS {l : List N} {xs : List Value} (h : NsC w S l xs) (hS : ∀ b,S b -> b < w.heap.size -> S' b) (hB : S' w.heap.size) (hl : l.length <= 1000000) (e : TypeId) : KR (w.alloc (.cells xs.toArray e)) S' (.slice (some ⟨w.heap.size,0,none⟩) l.length l.length) l:=by
 refine ⟨xs,⟨_,_,rfl,Nat.le_refl _,by unfold maxLen;omega,h.len,.inr ⟨_,_,rfl,hB,fun j u hj => ?_⟩⟩,(h.keep hS (fun _ _ _ hc => hc)).keep (fun _ hs _ => hs) (keepB ((Below.refl _ _).alloc (Nat.le_refl _) _))⟩
 rw [Nat.zero_add,World.cell?_alloc_mark]
 simpa using hj
theorem NA.cells {a : Value} {n : N} {cs : Array Value} (h : NA w S a n) (ha : a = .agg cs) : NC w S n cs.toList:=by
 obtain ⟨cs',e1,hc⟩:=h
 rw [ha] at e1
 injection e1 with e1
 subst e1
 simpa using hc
theorem KR.one_ {n : N} {cs : Array Value} (h : NA w S (.agg cs) n) (hS : ∀ b,S b -> b < w.heap.size -> S' b) (hB : S' w.heap.size) (e : TypeId) : KR (w.alloc (.cells cs e)) S' (.slice (some ⟨w.heap.size,0,none⟩) 1 1) [n]:=by
 have:=KR.newS (NsC.one (h.cells rfl)) hS hB (by simp) e
 simpa using this
theorem KR.two_ {n m : N} {cs ds : Array Value} (h : NA w S (.agg cs) n) (h2 : NA w S (.agg ds) m) (hS : ∀ b,S b -> b < w.heap.size -> S' b) (hB : S' w.heap.size) (e : TypeId) (xs : Array Value) (hx : xs.toList = cs.toList ++ ds.toList) :
  KR (w.alloc (.cells xs e)) S' (.slice (some ⟨w.heap.size,0,none⟩) 2 2) [n,m]:=by
 have h3 : NsC w S [n,m] (cs.toList ++ ds.toList):=by
  rw [NsC_cons]
  exact ⟨_,_,rfl,h.cells rfl,NsC.one (h2.cells rfl)⟩
 have:=KR.newS h3 hS hB (by simp) e
 rw [<- hx] at this
 simpa using this
theorem KR.below {l : List N} (h : KR w S v l) (hb : Below w.heap.size w w') : KR w' S v l:=h.keep (fun _ hs _ => hs) (keepB hb)
end
theorem Tryz.infoNode : (Tryz.prog.info? 25).map (fun i => (i.zero,i.size,i.bytes)) = some (some (.agg #[.int .i64 0,.string ⟨#[]⟩,.int .i64 0,.string ⟨#[]⟩,.slice none 0 0]),5,72):=by kernel_rfl
theorem own_chg {w w' : World} {base g size n : Nat} {e : TypeId} {v : Value} {xs : List Value} (h : w.ownsRow base e size v n xs) (c : Ch g w w') (hg : g < base) : w'.ownsRow base e size v n xs:=by
 rcases h.2 with ⟨rfl,h0⟩ | ⟨k,cap,cur,rfl,hbg,hk,h1⟩
 ·
  exact ⟨h.1,.inl ⟨rfl,h0⟩⟩
 ·
  exact ⟨h.1,.inr ⟨k,cap,cur,rfl,hbg,(c.block k (Array.getElem?_eq_some_iff.1 hk).1 (fun e => by injection e;omega)).trans hk,h1⟩⟩
theorem OwnK.ch {w w' : World} {base g : Nat} {v : Value} {l : List N} (h : OwnK w base v l) (c : Ch g w w') (hg : g < base) : OwnK w' base v l:=by
 obtain ⟨xs,h1,h2⟩:=h
 exact ⟨xs,own_chg h1 c hg,h2.keep (fun _ hs _ => hs) (keepCh c (fun hh => by have:=hh.1;omega))⟩
theorem OwnK.below {w w' : World} {base : Nat} {v : Value} {l : List N} (h : OwnK w base v l) (hb : Below w.heap.size w w') : OwnK w' base v l:=by
 obtain ⟨xs,h1,h2⟩:=h
 refine ⟨xs,?_,h2.keep (fun _ hs _ => hs) (keepB hb)⟩
 rcases h1.2 with ⟨rfl,h0⟩ | ⟨k,cap,cur,rfl,hbg,hk,h3⟩
 ·
  exact ⟨h1.1,.inl ⟨rfl,h0⟩⟩
 ·
  exact ⟨h1.1,.inr ⟨k,cap,cur,rfl,hbg,(hb.block k (Array.getElem?_eq_some_iff.1 hk).1).trans hk,h3⟩⟩
theorem OwnK.form {w : World} {base : Nat} {v : Value} {l : List N} (h : OwnK w base v l) : ∃ A c,v = .slice A l.length c:=h.kr.form
theorem OwnK.lt {w : World} {base : Nat} {v : Value} {l : List N} (h : OwnK w base v l) : ∀ k,v.ownBlock = some k -> base <= k /\ k < w.heap.size:=by
 obtain ⟨xs,h1,_⟩:=h
 exact fun k hk => World.ownsRow.lt h1 k hk
theorem OwnK.lit {w : World} {S : Nat -> Prop} {base : Nat} {l : List N} {xs : Array Value} (h : NsC w S l xs.toList) (hS : ∀ b,S b -> b < w.heap.size -> base <= b) (hB : base <= w.heap.size) (hl : l.length <= 1000000) : OwnK (w.alloc (.cells xs 25)) base (.slice (some ⟨w.heap.size,0,none⟩) l.length l.length) l:=by
 have h5:=h.len
 refine ⟨xs.toList,?_,(h.keep (S':=fun b => base <= b /\ (Value.slice (some ⟨w.heap.size,0,none⟩) l.length l.length).ownBlock ≠ some b) (fun b hs hlt => ⟨hS b hs hlt,by simp [Value.ownBlock];omega⟩) (fun _ _ _ hc => hc)).keep (fun _ hs _ => hs) (keepB ((Below.refl _ _).alloc (Nat.le_refl _) _))⟩
 have:=World.ownsRow_lit (base:=base) (e:=25) (size:=5) w xs l.length hB (by unfold maxLen;omega) (by simpa using h5)
 simpa using this
theorem run_appNode {wr : World} {S : Nat -> Prop} (ty : TypeId) (base : Nat) (v : Value) (l : List N) (n : N) (cs : Array Value) (hown : OwnK wr base v l) (hna : NA wr S (.agg cs) n)
  (hS : ∀ b,S b -> b < wr.heap.size -> base <= b /\ v.ownBlock ≠ some b) (hl : l.length <= 1000000) (hbase : base <= wr.heap.size) :
  ∃ v' w',(Builtin.append_ #[23,23] ty #[v,.slice (some ⟨wr.heap.size,0,none⟩) 1 1]).run Tryz.prog (wr.alloc (.cells cs 25)) = .ok v' w' /\ OwnK w' base v' (l ++ [n]) /\ Below base wr w':=by
 obtain ⟨i0,hi,hz0,hz1,hz2⟩:=info_parts Tryz.infoNode
 obtain ⟨xs,ho,hx⟩:=hown
 have hc:=hna.cells rfl
 have hlen:=hc.len5
 have hown2 : (wr.alloc (.cells cs 25)).ownsRow base 25 5 v l.length xs:=World.ownsRow.alloc ho _
 obtain ⟨v',w',hrun,h2,h3,_,h5⟩:=run_append_own_at (P:=Tryz.prog) _ base 23 ty 25 i0 _ 5 72 Tryz.underlying23 hi hz0 hz1 hz2 rfl (by omega) v l.length xs hown2
  ⟨wr.heap.size,0,none⟩ 1 1 cs.toList (by simpa using hlen) (fun j u hj => by
   rw [show (⟨wr.heap.size,0,none⟩ : Addr).add j = ⟨wr.heap.size,j,none⟩ by simp [Addr.add];omega,World.cell?_alloc_mark]
   simpa using hj) hc.one (by unfold maxLen;omega) (by omega) (by simp;omega)
 have hbl : ∀ k,v.ownBlock = some k -> base <= k:=fun k hk => (World.ownsRow.lt ho k hk).1
 have hG : Below base wr w':=by
  have hx1 : Below base wr (wr.alloc (.cells cs 25)):=(Below.refl base wr).alloc hbase _
  exact hx1.grown h3 (by simp;omega) hbl
 have keep : ∀ b,(b < wr.heap.size /\ v.ownBlock ≠ some b) -> w'.heap[b]? = wr.heap[b]?:=fun b hb => by
  rw [h3.block b (by simp;omega) (fun e => hb.2 e.symm)]
  show (wr.heap.push _)[b]? = _
  rw [Array.getElem?_push_lt hb.1,Array.getElem?_eq_getElem hb.1]
 have keepc : ∀ (p : Addr) u,(p.block < wr.heap.size /\ v.ownBlock ≠ some p.block) -> wr.cell? p = some u -> w'.cell? p = some u:=fun p u hb hcell => by
  have:=keep p.block hb
  unfold World.cell? at hcell |-
  rw [this];exact hcell
 have own' : ∀ b,b < wr.heap.size -> v.ownBlock ≠ some b -> v'.ownBlock ≠ some b:=by
  intro b hb hne
  rcases h5 with h5 | h5
  ·
   rw [h5];exact hne
  ·
   rw [h5];simp;omega
 refine ⟨v',w',hrun,⟨xs ++ cs.toList,by rw [List.length_append];exact h2,?_⟩,hG⟩
 refine NsC.app ?_ (NsC.one ?_)
 ·
  have h6:=hx.keep (S':=fun b => base <= b /\ b < wr.heap.size /\ v.ownBlock ≠ some b) (fun b hs hlt => ⟨hs.1,hlt,hs.2⟩) (fun _ _ _ h => h)
  have h7:=h6.keep (w':=w') (fun _ hs _ => hs) (fun p u hs hcell => keepc p u hs.2 hcell)
  exact h7.keep (fun b hs _ => ⟨hs.1,own' b hs.2.1 hs.2.2⟩) (fun _ _ _ h => h)
 ·
  have h6:=NC.keep (w':=wr) (S':=fun b => base <= b /\ b < wr.heap.size /\ v.ownBlock ≠ some b) (fun b hs hlt => ⟨(hS b hs hlt).1,hlt,(hS b hs hlt).2⟩) (fun _ _ _ h => h) n _ hc
  have h7:=NC.keep (w':=w') (fun _ hs _ => hs) (fun p u hs hcell => keepc p u hs.2 hcell) n _ h6
  exact NC.keep (fun b hs _ => ⟨hs.1,own' b hs.2.1 hs.2.2⟩) (fun _ _ _ h => h) n _ h7
theorem wpList_appNode {wr : World} {S : Nat -> Prop} {ops : Array Oper} {rest : List Oper} {o : Oper} {a : Act} {Q : Exit -> Act -> World -> Prop} (hgd : o.guard = none) (s x : Operand)
  (ho : o.op = .call { callee:=.builtin .append,args:=#[s,x],argTypes:=#[23,23] })
  (base : Nat) (v : Value) (l : List N) (n : N) (cs : Array Value) (hs : a.eval s = v) (hown : OwnK wr base v l) (hna : NA wr S (.agg cs) n)
  (hS : ∀ b,S b -> b < wr.heap.size -> base <= b /\ v.ownBlock ≠ some b) (hx : a.eval x = .slice (some ⟨wr.heap.size,0,none⟩) 1 1) (hl : l.length <= 1000000) (hbase : base <= wr.heap.size)
  (h : ∀ A' c' w',OwnK w' base (.slice A' (l.length + 1) c') (l ++ [n]) -> Below base wr w' -> wpList Tryz.prog ops Q rest (a.put o.dst (.slice A' (l.length + 1) c')) w') :
  wpList Tryz.prog ops Q (o :: rest) a (wr.alloc (.cells cs 25)):=by
 obtain ⟨v',w',hrun,h2,h3⟩:=run_appNode o.type base v l n cs hown hna hS hl hbase
 obtain ⟨A',c',rfl⟩:=h2.form
 refine wpList_plain hgd fun _ hK => ?_
 unfold Oper.wp execOp
 simp only [ho,resolve,invoke,builtin,Sem.run_bind,Sem.run_pure,Result.andThen_ok,List.map_toArray,List.map_cons,List.map_nil,hs,hx,hrun]
 simp only [List.length_append,List.length_cons,List.length_nil,Nat.zero_add] at h2 |-
 exact hK _ _ (h A' c' w' h2 h3)
end Go.Proofs.YtgeppafcemeidaaGreatDoor
namespace Go.Proofs.YtgeppafcemeidaaGreatDoor
open Go.RowKit
open Sy (N NT R Ev Run Pg fx hd)
open Tk (T)
namespace Sy
def TB (t : T) : Prop:=0 <= t.n /\ t.n <= 9223372036854775807 /\ t.t.length <= 20000 /\ 0 <= t.k /\ t.k <= 5
def Fin : List T -> Prop
 | [] => False
 | [e] => e.k = 0 /\ TB e
 | t :: r => t.k ≠ 0 /\ TB t /\ Fin r
theorem Fin.tail {t : T} {r : List T} (h : Fin (t :: r)) (hk : t.k ≠ 0) : Fin r:=by
 cases r with
 | nil => exact absurd h.1 hk
 | cons u s => exact h.2.2
theorem Fin.tb {t : T} {r : List T} (h : Fin (t :: r)) : TB t:=by
 cases r with
 | nil => exact h.2
 | cons u s => exact h.2.1
theorem Fin.ex {l : List T} (h : Fin l) : ∃ t r,l = t :: r:=by
 cases l with
 | nil => exact absurd h (by simp [Fin])
 | cons t r => exact ⟨t,r,rfl⟩
theorem fx_k {t : T} {r : List T} {s : List UInt8} (h : fx (t :: r) = s) (hs : s ≠ []) : t.k ≠ 0:=by
 intro hk
 apply hs
 rw [<- h]
 simp [fx,hk]
end Sy
open Sy (Fin TB)
def Pt (w : World) (g : Nat) (L l : List T) : Prop:=∃ b o c,w.heap[g]? = some (.cells #[.slice (some ⟨b,o,none⟩) L.length c,.int .i64 ((L.length - l.length : Nat) : Int)] 56 (0,0)) /\ b < g /\
 (∀ i t,L[i]? = some t -> w.cell? ⟨b,o + i * 4,none⟩ = some (.int .i64 t.k) /\ w.cell? ⟨b,o + i * 4 + 1,none⟩ = some (.int .i64 t.at_) /\ w.cell? ⟨b,o + i * 4 + 2,none⟩ = some (.string ⟨t.t.toArray⟩) /\ w.cell? ⟨b,o + i * 4 + 3,none⟩ = some (.int .i64 t.n)) /\
 L.drop (L.length - l.length) = l /\ Fin l /\ l.length <= L.length /\ L.length <= 20000 /\ L.length <= c /\ c <= 9223372036854775807
section
variable {w w' : World} {g : Nat} {L l r : List T} {t : T}
theorem Pt.lt (h : Pt w g L l) : g < w.heap.size:=by
 obtain ⟨b,o,c,h,_⟩:=h
 exact (Array.getElem?_eq_some_iff.1 h).1
theorem Pt.fin (h : Pt w g L l) : Fin l:=by
 obtain ⟨b,o,c,_,_,_,_,h,_⟩:=h
 exact h
theorem Pt.below (h : Pt w g L l) (hb : Below w.heap.size w w') : Pt w' g L l:=by
 have hl:=h.lt
 obtain ⟨b,o,c,h1,h2,h3,h4⟩:=h
 refine ⟨b,o,c,(hb.block g hl).trans h1,h2,fun i t hi => ?_,h4⟩
 obtain ⟨q0,q1,q2,q3⟩:=h3 i t hi
 have k : ∀ {a : Addr} {u : Value},w.cell? a = some u -> w'.cell? a = some u:=fun hc => (hb.cell (World.block_lt_of_cell? w _ hc)).trans hc
 exact ⟨k q0,k q1,k q2,k q3⟩
theorem Pt.draws (h : Pt w g L l) (q : Nat) : Pt (w.drewN q) g L l:=h
theorem Pt.chk {k : Nat} (h : Pt w g L l) (hc : Ch k w w') (hk : g < k) : Pt w' g L l:=by
 obtain ⟨b,o,c,h1,h2,h3,h4⟩:=h
 refine ⟨b,o,c,hc.obj h1 (by omega),h2,fun i t hi => ?_,h4⟩
 obtain ⟨q0,q1,q2,q3⟩:=h3 i t hi
 have kk : ∀ {j : Nat} {u : Value},w.cell? ⟨b,j,none⟩ = some u -> w'.cell? ⟨b,j,none⟩ = some u:=fun hh => hc.cell hh (show b ≠ k by omega)
 exact ⟨kk q0,kk q1,kk q2,kk q3⟩
theorem Pt.step (h : Pt w g L (t :: r)) (hk : t.k ≠ 0) : Pt (w.setCell ⟨g,1,none⟩ (.int .i64 (((L.length - (t :: r).length : Nat) : Int) + 1))) g L r:=by
 obtain ⟨b,o,c,h1,h2,h3,h4,h5,h6,h7,h8⟩:=h
 have hlt:=(Array.getElem?_eq_some_iff.1 h1).1
 have hln : L.length - r.length = L.length - (t :: r).length + 1:=by simp only [List.length_cons] at h6 |-;omega
 refine ⟨b,o,c,?_,h2,fun i t hi => ?_,?_,h5.tail hk,by simp only [List.length_cons] at h6;omega,h7,h8⟩
 ·
  simp only [World.setCell]
  rw [Array.getElem?_modify]
  simp only [if_true]
  rw [h1,hln]
  simp
 ·
  obtain ⟨q0,q1,q2,q3⟩:=h3 i t hi
  have k : ∀ {j : Nat} {v u : Value},w.cell? ⟨b,j,none⟩ = some v -> (w.setCell ⟨g,1,none⟩ u).cell? ⟨b,j,none⟩ = some v:=by
   intro j v u hc
   have:=(Ch.set w g 1 u).cell hc (Nat.ne_of_lt h2)
   exact this
  exact ⟨k q0,k q1,k q2,k q3⟩
 ·
  rw [hln,<- List.drop_drop,h4];rfl
end
theorem below_alloc_drew {w : World} (o : Obj) : Below w.heap.size w (w.alloc o).drew:=((Below.refl _ _).alloc (Nat.le_refl _) _).trans (below_draws 1)
def tkV (t : T) : Value:=.agg #[.int .i64 t.k,.int .i64 t.at_,.string ⟨t.t.toArray⟩,.int .i64 t.n]
def fltV (l : List T) : List PanicEntry:=[{ v:=.iface 40 (.agg #[.int .i64 (hd l).at_,.int .i64 29]),recovered:=false }]
theorem next_any (g : Nat) (L : List T) (t : T) (r : List T) (w : World) (h : Pt w g L (t :: r)) :
  Calls Tryz.prog 46 #[.pointer (some ⟨g,0,none⟩)] w fun e w' => e = .returned (tkV t) /\ Below w.heap.size w w':=by
 have hlt:=h.lt
 obtain ⟨b,o,c,h1,h2,h3,h4,h5,h6,h7,h8,h9⟩:=h
 have hn : L.length - (t :: r).length < L.length:=by simp only [List.length_cons] at h6 |-;omega
 have hg : L[L.length - (t :: r).length]? = some t:=by
  have:=congrArg (fun l => l[0]?) h4
  simpa using this
 have hc0 : w.cell? ⟨g,0,none⟩ = some (.slice (some ⟨b,o,none⟩) L.length c):=by have:=cellAt h1 0;simpa using this
 have hc1 : w.cell? ⟨g,1,none⟩ = some (.int .i64 ((L.length - (t :: r).length : Nat) : Int)):=by have:=cellAt h1 1;simpa using this
 obtain ⟨q0,q1,q2,q3⟩:=h3 _ _ hg
 generalize L.length - (t :: r).length = n at *
 have hlb : b < w.heap.size:=World.block_lt_of_cell? w _ q0
 clear h1 h3 h4 h5 h6 hg
 have hi0 : (0 : Int) <= (n : Int):=by omega
 have hi1 : (n : Int) < (L.length : Int):=by omega
 clear hn
 go_enter Tryz.func46,Tryz.ntmps46
 go_wp2_with fail
 go_region_held3 (fun w' => w'.cell? ⟨g,0,none⟩ = some (.slice (some ⟨b,o,none⟩) L.length c) /\ w'.cell? ⟨g,1,none⟩ = some (.int .i64 (n : Int)) /\ w'.cell? ⟨b,o + n * 4,none⟩ = some (.int .i64 t.k) /\ w'.cell? ⟨b,o + n * 4 + 1,none⟩ = some (.int .i64 t.at_) /\ w'.cell? ⟨b,o + n * 4 + 2,none⟩ = some (.string ⟨t.t.toArray⟩) /\ w'.cell? ⟨b,o + n * 4 + 3,none⟩ = some (.int .i64 t.n)) (go_keep) (fail)
 go_wp2_with fail
 refine bodyPost_ret (v:=tkV t) (by simp [results,Tryz.results46,go_sem,tkV]) rfl ⟨rfl,below_alloc_drew _⟩
theorem fixedText_any (t : T) (r : List T) (w : World) :
  Calls Tryz.prog 170 #[tkV t] w fun e w' => e = .returned (.string ⟨(fx (t :: r)).toArray⟩) /\ Below w.heap.size w w':=by
 unfold tkV
 by_cases h2 : t.k = 2
 ·
  have e : Hid (fx (t :: r) = t.t):=by show _ = _;simp [fx,h2]
  have hb : (t.k == 2) = true:=by simpa using h2
  generalize fx (t :: r) = x at *
  clear h2
  go_enter Tryz.func170,Tryz.ntmps170
  go_wp2_with fail
  go_ret
  rw [e.out]
  exact ⟨rfl,(Below.refl _ _).alloc (Nat.le_refl _) _⟩
 ·
  have hb : (t.k == 2) = false:=by simpa using h2
  by_cases h5 : t.k = 5
  ·
   have e : Hid (fx (t :: r) = t.t):=by show _ = _;simp [fx,h5]
   have hc : (t.k == 5) = true:=by simpa using h5
   generalize fx (t :: r) = x at *
   clear h2 h5
   go_enter Tryz.func170,Tryz.ntmps170
   go_wp2_with fail
   go_ret
   rw [e.out]
   exact ⟨rfl,(Below.refl _ _).alloc (Nat.le_refl _) _⟩
  ·
   have e : Hid (fx (t :: r) = []):=by show _ = _;simp [fx,h2,h5]
   have hc : (t.k == 5) = false:=by simpa using h5
   generalize fx (t :: r) = x at *
   clear h2 h5
   go_enter Tryz.func170,Tryz.ntmps170
   go_wp2_with fail
   go_ret
   rw [e.out]
   exact ⟨rfl,(Below.refl _ _).alloc (Nat.le_refl _) _⟩
theorem fixed_any (g : Nat) (L : List T) (t : T) (r : List T) (w : World) (h : Pt w g L (t :: r)) :
  Calls Tryz.prog 133 #[.pointer (some ⟨g,0,none⟩)] w fun e w' => e = .returned (.string ⟨(fx (t :: r)).toArray⟩) /\ Below w.heap.size w w':=by
 have C1:=hid (next_any g L t r w h)
 have C2:=hid (fun W => fixedText_any t r W)
 clear h
 generalize fx (t :: r) = x at *
 go_enter Tryz.func133,Tryz.ntmps133
 go_wp2_with fail
 refine C1.out.mono ?_
 rintro e w1 ⟨rfl,hb⟩
 have HB:=hid hb
 clear hb
 go_wp2_with fail
 refine (C2.out _).mono ?_
 rintro e w2 ⟨rfl,hb2⟩
 have HB2:=hid hb2
 clear hb2
 go_wp2_with fail
 go_ret
 exact ⟨rfl,HB.out.trans (HB2.out.mono HB.out.size)⟩
theorem Tryz.field0 (a b c d : Value) (w : World) : (Instr.field 59 (.agg #[a,b,c,d]) 0).run Tryz.prog w = .ok a w:=by
 simp [Instr.field,go_sem,Tryz.underlying59,asAgg]
theorem Tryz.field1 (a b c d : Value) (w : World) : (Instr.field 59 (.agg #[a,b,c,d]) 1).run Tryz.prog w = .ok b w:=by
 simp [Instr.field,go_sem,Tryz.underlying59,asAgg]
attribute [local go_sem ↓] Tryz.field0 Tryz.field1
theorem require_yes (g : Nat) (w : World) : Calls Tryz.prog 45 #[.pointer (some ⟨g,0,none⟩),.bool true] w fun e w' => e = .returned (.tuple #[]) /\ w = w':=by
 go_enter Tryz.func45,Tryz.ntmps45
 go_wp2_with fail
 refine bodyPost_end (v:=.tuple #[]) (by simp [results,Tryz.results45]) rfl ⟨rfl,rfl⟩
theorem require_no (g : Nat) (L : List T) (t : T) (r : List T) (w : World) (h : Pt w g L (t :: r)) :
  Calls Tryz.prog 45 #[.pointer (some ⟨g,0,none⟩),.bool false] w fun e w' => e = .panicked (fltV (t :: r)) /\ Below w.heap.size w w':=by
 have C1:=hid (next_any g L t r w h)
 clear h
 unfold tkV at C1
 go_enter Tryz.func45,Tryz.ntmps45
 go_wp2_with fail
 refine C1.out.mono ?_
 rintro e w1 ⟨rfl,hb⟩
 go_wp2_with fail
 exact ⟨rfl,rfl,hb⟩
theorem Pt.cell1 {w : World} {g : Nat} {L l : List T} (h : Pt w g L l) : w.cell? ⟨g,1,none⟩ = some (.int .i64 ((L.length - l.length : Nat) : Int)):=by
 obtain ⟨b,o,c,h1,_⟩:=h
 have:=cellAt h1 1;simpa using this
theorem Pt.free {w : World} {g : Nat} {L l : List T} (h : Pt w g L l) (i : Nat) : w.frozen? ⟨g,i,none⟩ = false:=by
 obtain ⟨b,o,c,h1,_⟩:=h
 exact freeAt h1 i
theorem Pt.len {w : World} {g : Nat} {L l : List T} (h : Pt w g L l) : l.length <= L.length /\ L.length <= 20000:=by
 obtain ⟨b,o,c,h1,_,_,_,_,h2,h3,_⟩:=h
 exact ⟨h2,h3⟩
def Moved (g : Nat) (L r : List T) (w : World) (v : Value) (e : Ending) (w' : World) : Prop:=e = .returned v /\ Pt w' g L r /\ Ch g w w'
def Fell (g : Nat) (l : List T) (w : World) (e : Ending) (w' : World) : Prop:=e = .panicked (fltV l) /\ Ch g w w'
end Go.Proofs.YtgeppafcemeidaaGreatDoor
namespace Go.Proofs.YtgeppafcemeidaaGreatDoor
open Go.RowKit
open Sy (N NT R Ev Run Pg fx hd)
open Tk (T)
open Sy (Fin TB)
attribute [local go_sem ↓] Tryz.field0 Tryz.field1
theorem beq_str {a : List UInt8} {s : ByteArray} (h : a = s.data.toList) : (a == s.toList) = true:=by rw [Lib.toList_data];simp [h]
theorem beq_nstr {a : List UInt8} {s : ByteArray} (h : a ≠ s.data.toList) : (a == s.toList) = false:=by rw [Lib.toList_data];simp [h]
theorem Pt.step' {w : World} {g n : Nat} {L r : List T} {t : T} (h : Pt w g L (t :: r)) (hk : t.k ≠ 0) (hn : n = L.length - (t :: r).length) : Pt (w.setCell ⟨g,1,none⟩ (.int .i64 ((n : Int) + 1))) g L r:=by
 subst hn;exact h.step hk
theorem Pt.cell1' {w : World} {g n : Nat} {L l : List T} (h : Pt w g L l) (hn : n = L.length - l.length) : w.cell? ⟨g,1,none⟩ = some (.int .i64 (n : Int)):=by
 subst hn;exact h.cell1
theorem take_yes (g : Nat) (L : List T) (t : T) (r : List T) (s : ByteArray) (w : World) (h : Pt w g L (t :: r)) (hf : fx (t :: r) = s.data.toList) (hs : s.data.toList ≠ []) :
  Calls Tryz.prog 87 #[.pointer (some ⟨g,0,none⟩),.string s] w (Moved g L r w (.tuple #[])):=by
 have C1:=hid (fixed_any g L t r w h)
 have H:=hid h
 have hk : Hid (t.k ≠ 0):=Sy.fx_k hf hs
 have C2:=hid (fun W => require_yes g W)
 have hb:=beq_str hf
 have hn2 : L.length - (t :: r).length <= 20000:=by have:=h.len;omega
 obtain ⟨n,hn⟩ : ∃ n,n = L.length - (t :: r).length:=⟨_,rfl⟩
 rw [<- hn] at hn2
 have HN:=hid hn
 clear h hf hs hn
 generalize fx (t :: r) = x at *
 go_enter Tryz.func87,Tryz.ntmps87
 go_wp2_with fail
 refine C1.out.mono ?_
 rintro e w1 ⟨rfl,hb1⟩
 have HB:=hid hb1
 have H1:=hid (H.out.below hb1)
 clear hb1
 go_wp2_with fail
 refine (C2.out _).mono ?_
 rintro e w1 ⟨rfl,rfl⟩
 have hc:=H1.out.cell1' HN.out
 have hfr:=H1.out.free 1
 go_wp2_with fail
 exact bodyPost_end (v:=.tuple #[]) (by simp [results,Tryz.results87]) rfl ⟨rfl,H1.out.step' hk.out HN.out,(Ch.of_below HB.out).trans (Ch.set _ _ _ _)⟩
theorem take_no (g : Nat) (L : List T) (t : T) (r : List T) (s : ByteArray) (w : World) (h : Pt w g L (t :: r)) (hf : fx (t :: r) ≠ s.data.toList) :
  Calls Tryz.prog 87 #[.pointer (some ⟨g,0,none⟩),.string s] w (Fell g (t :: r) w):=by
 have C1:=hid (fixed_any g L t r w h)
 have H:=hid h
 have C2:=hid (fun W h => require_no g L t r W h)
 have hb:=beq_nstr hf
 clear h hf
 generalize fx (t :: r) = x at *
 go_enter Tryz.func87,Tryz.ntmps87
 go_wp2_with fail
 refine C1.out.mono ?_
 rintro e w1 ⟨rfl,hb1⟩
 have HB:=hid hb1
 have H1:=hid (H.out.below hb1)
 clear hb1
 go_wp2_with fail
 refine (C2.out _ H1.out).mono ?_
 rintro e w2 ⟨rfl,hb2⟩
 go_wp2_with fail
 exact ⟨rfl,rfl,(Ch.of_below HB.out).trans (Ch.of_below hb2)⟩
theorem skip_yes (g : Nat) (L : List T) (t : T) (r : List T) (s : ByteArray) (w : World) (h : Pt w g L (t :: r)) (hf : fx (t :: r) = s.data.toList) (hs : s.data.toList ≠ []) :
  Calls Tryz.prog 84 #[.pointer (some ⟨g,0,none⟩),.string s] w (Moved g L r w (.bool true)):=by
 have C1:=hid (fixed_any g L t r w h)
 have H:=hid h
 have hk : Hid (t.k ≠ 0):=Sy.fx_k hf hs
 have hb:=beq_str hf
 have hn2 : L.length - (t :: r).length <= 20000:=by have:=h.len;omega
 obtain ⟨n,hn⟩ : ∃ n,n = L.length - (t :: r).length:=⟨_,rfl⟩
 rw [<- hn] at hn2
 have HN:=hid hn
 clear h hf hs hn
 generalize fx (t :: r) = x at *
 go_enter Tryz.func84,Tryz.ntmps84
 go_wp2_with fail
 refine C1.out.mono ?_
 rintro e w1 ⟨rfl,hb1⟩
 have HB:=hid hb1
 have H1:=hid (H.out.below hb1)
 clear hb1
 have hc:=H1.out.cell1' HN.out
 have hfr:=H1.out.free 1
 go_wp2_with fail
 go_ret
 exact ⟨rfl,H1.out.step' hk.out HN.out,(Ch.of_below HB.out).trans (Ch.set _ _ _ _)⟩
theorem skip_no (g : Nat) (L : List T) (t : T) (r : List T) (s : ByteArray) (w : World) (h : Pt w g L (t :: r)) (hf : fx (t :: r) ≠ s.data.toList) :
  Calls Tryz.prog 84 #[.pointer (some ⟨g,0,none⟩),.string s] w (Moved g L (t :: r) w (.bool false)):=by
 have C1:=hid (fixed_any g L t r w h)
 have H:=hid h
 have hb:=beq_nstr hf
 clear h hf
 generalize fx (t :: r) = x at *
 go_enter Tryz.func84,Tryz.ntmps84
 go_wp2_with fail
 refine C1.out.mono ?_
 rintro e w1 ⟨rfl,hb1⟩
 have HB:=hid hb1
 have H1:=hid (H.out.below hb1)
 clear hb1
 go_wp2_with fail
 go_ret
 exact ⟨rfl,H1.out,Ch.of_below HB.out⟩
theorem name_yes (g : Nat) (L : List T) (t : T) (r : List T) (w : World) (h : Pt w g L (t :: r)) (hf : t.k = 1) :
  Calls Tryz.prog 134 #[.pointer (some ⟨g,0,none⟩)] w (Moved g L r w (.string ⟨t.t.toArray⟩)):=by
 have C1:=hid (next_any g L t r w h)
 have H:=hid h
 have hlt:=h.lt
 unfold tkV at C1
 have hk : Hid (t.k ≠ 0):=fun e => by omega
 have C2:=hid (fun W => require_yes g W)
 have hb : (t.k == 1) = true:=by simpa using hf
 have hn2 : L.length - (t :: r).length <= 20000:=by have:=h.len;omega
 obtain ⟨n,hn⟩ : ∃ n,n = L.length - (t :: r).length:=⟨_,rfl⟩
 rw [<- hn] at hn2
 have HN:=hid hn
 clear h hf hn
 go_enter Tryz.func134,Tryz.ntmps134
 go_wp2_with fail
 refine C1.out.mono ?_
 rintro e w1 ⟨rfl,hb1⟩
 have HB:=hid hb1
 have H1:=hid (H.out.below hb1)
 have hlt1:=H1.out.lt
 clear hb1
 go_wp2_with fail
 refine (C2.out _).mono ?_
 rintro e w2 ⟨rfl,hw2⟩
 have HB2 : Hid (Below w1.heap.size w1 w2):=by show Below _ _ _;rw [<- hw2];exact (Below.refl _ _).alloc (Nat.le_refl _) _
 have HO : Hid (w2.cell? ⟨w1.heap.size,2,none⟩ = some (.string ⟨t.t.toArray⟩)):=by show _ = _;rw [<- hw2];simp
 clear hw2
 have H2:=hid (H1.out.below HB2.out)
 have ho:=HO.out
 have hlt2:=H2.out.lt
 have hc:=H2.out.cell1' HN.out
 have hfr:=H2.out.free 1
 go_wp2_with fail
 go_ret
 exact ⟨rfl,H2.out.step' hk.out HN.out,((Ch.of_below HB.out).trans (Ch.of_below HB2.out)).trans (Ch.set _ _ _ _)⟩
theorem name_no (g : Nat) (L : List T) (t : T) (r : List T) (w : World) (h : Pt w g L (t :: r)) (hf : t.k ≠ 1) :
  Calls Tryz.prog 134 #[.pointer (some ⟨g,0,none⟩)] w (Fell g (t :: r) w):=by
 have C1:=hid (next_any g L t r w h)
 have H:=hid h
 have hlt:=h.lt
 unfold tkV at C1
 have C2:=hid (fun W h => require_no g L t r W h)
 have hb : (t.k == 1) = false:=by simpa using hf
 clear h hf
 go_enter Tryz.func134,Tryz.ntmps134
 go_wp2_with fail
 refine C1.out.mono ?_
 rintro e w1 ⟨rfl,hb1⟩
 have HB:=hid hb1
 have H1:=hid (H.out.below hb1)
 have hlt1:=H1.out.lt
 clear hb1
 go_wp2_with fail
 refine (C2.out _ (H1.out.below ((Below.refl _ _).alloc (Nat.le_refl _) _))).mono ?_
 rintro e w2 ⟨rfl,hb2⟩
 go_wp2_with fail
 exact ⟨rfl,rfl,((Ch.of_below HB.out).trans (Ch.of_below ((Below.refl _ _).alloc (Nat.le_refl _) _))).trans (Ch.of_below hb2)⟩
end Go.Proofs.YtgeppafcemeidaaGreatDoor
namespace Go.Proofs.YtgeppafcemeidaaGreatDoor
open Go.RowKit
open Sy (N NT R Ev Run Pg fx hd)
open Tk (T)
open Sy (Fin TB)
attribute [local go_sem ↓] Tryz.field0 Tryz.field1
def ndV (op : Int) (s : List UInt8) (n : Int) (t : List UInt8) (A : Option Addr) (m c : Nat) : Value:=.agg #[.int .i64 op,.string ⟨s.toArray⟩,.int .i64 n,.string ⟨t.toArray⟩,.slice A m c]
theorem node_any (op : Int) (A : Option Addr) (m c : Nat) (w : World) :
  Calls Tryz.prog 48 #[.int .i64 op,.slice A m c] w fun e w' => e = .returned (ndV op [] 0 [] A m c) /\ Below w.heap.size w w':=by
 go_enter Tryz.func48,Tryz.ntmps48
 go_wp2_with fail
 exact bodyPost_ret (v:=ndV op [] 0 [] A m c) (by simp [results,Tryz.results48,go_sem,ndV]) rfl ⟨rfl,(Below.refl _ _).alloc (Nat.le_refl _) _⟩
theorem named_any (op : Int) (s : List UInt8) (A : Option Addr) (m c : Nat) (w : World) :
  Calls Tryz.prog 135 #[.int .i64 op,.string ⟨s.toArray⟩,.slice A m c] w fun e w' => e = .returned (ndV op s 0 [] A m c) /\ Below w.heap.size w w':=by
 go_enter Tryz.func135,Tryz.ntmps135
 go_wp2_with fail
 exact bodyPost_ret (v:=ndV op s 0 [] A m c) (by simp [results,Tryz.results135,go_sem,ndV]) rfl ⟨rfl,(Below.refl _ _).alloc (Nat.le_refl _) _⟩
theorem lit_eq {x y : List UInt8} (h : x = y) : (x == y) = true:=by simp [h]
theorem lit_ne {x y : List UInt8} (h : ¬ x = y) : (x == y) = false:=by simp [h]
theorem infix_any (x : List UInt8) (w : World) :
  Calls Tryz.prog 154 #[.string ⟨x.toArray⟩] w fun e w' => e = .returned (.tuple #[.int .i64 (Sy.inf x).1,.int .i64 ((Sy.inf x).2 : Int)]) /\ w = w':=by
 by_cases h0 : x = [111,114]
 ·
  have e : Hid (Sy.inf x = (27,1)):=by show _ = _;unfold Sy.inf;rw [if_pos h0]
  have b0 : (x == [111,114]) = true:=lit_eq h0
  generalize Sy.inf x = y at *
  clear h0
  go_enter Tryz.func154,Tryz.ntmps154
  go_wp2_with fail
  go_ret2
  rw [e.out]
  exact ⟨rfl,rfl⟩
 by_cases h1 : x = [97,110,100]
 ·
  have e : Hid (Sy.inf x = (26,2)):=by show _ = _;unfold Sy.inf;rw [if_neg h0,if_pos h1]
  have b0 : (x == [111,114]) = false:=lit_ne h0
  have b1 : (x == [97,110,100]) = true:=lit_eq h1
  generalize Sy.inf x = y at *
  clear h0 h1
  go_enter Tryz.func154,Tryz.ntmps154
  go_wp2_with fail
  go_ret2
  rw [e.out]
  exact ⟨rfl,rfl⟩
 by_cases h2 : x = [60]
 ·
  have e : Hid (Sy.inf x = (20,3)):=by show _ = _;unfold Sy.inf;rw [if_neg h0,if_neg h1,if_pos h2]
  have b0 : (x == [111,114]) = false:=lit_ne h0
  have b1 : (x == [97,110,100]) = false:=lit_ne h1
  have b2 : (x == [60]) = true:=lit_eq h2
  generalize Sy.inf x = y at *
  clear h0 h1 h2
  go_enter Tryz.func154,Tryz.ntmps154
  go_wp2_with fail
  go_ret2
  rw [e.out]
  exact ⟨rfl,rfl⟩
 by_cases h3 : x = [60,61]
 ·
  have e : Hid (Sy.inf x = (21,3)):=by show _ = _;unfold Sy.inf;rw [if_neg h0,if_neg h1,if_neg h2,if_pos h3]
  have b0 : (x == [111,114]) = false:=lit_ne h0
  have b1 : (x == [97,110,100]) = false:=lit_ne h1
  have b2 : (x == [60]) = false:=lit_ne h2
  have b3 : (x == [60,61]) = true:=lit_eq h3
  generalize Sy.inf x = y at *
  clear h0 h1 h2 h3
  go_enter Tryz.func154,Tryz.ntmps154
  go_wp2_with fail
  go_ret2
  rw [e.out]
  exact ⟨rfl,rfl⟩
 by_cases h4 : x = [62]
 ·
  have e : Hid (Sy.inf x = (22,3)):=by show _ = _;unfold Sy.inf;rw [if_neg h0,if_neg h1,if_neg h2,if_neg h3,if_pos h4]
  have b0 : (x == [111,114]) = false:=lit_ne h0
  have b1 : (x == [97,110,100]) = false:=lit_ne h1
  have b2 : (x == [60]) = false:=lit_ne h2
  have b3 : (x == [60,61]) = false:=lit_ne h3
  have b4 : (x == [62]) = true:=lit_eq h4
  generalize Sy.inf x = y at *
  clear h0 h1 h2 h3 h4
  go_enter Tryz.func154,Tryz.ntmps154
  go_wp2_with fail
  go_ret2
  rw [e.out]
  exact ⟨rfl,rfl⟩
 by_cases h5 : x = [62,61]
 ·
  have e : Hid (Sy.inf x = (23,3)):=by show _ = _;unfold Sy.inf;rw [if_neg h0,if_neg h1,if_neg h2,if_neg h3,if_neg h4,if_pos h5]
  have b0 : (x == [111,114]) = false:=lit_ne h0
  have b1 : (x == [97,110,100]) = false:=lit_ne h1
  have b2 : (x == [60]) = false:=lit_ne h2
  have b3 : (x == [60,61]) = false:=lit_ne h3
  have b4 : (x == [62]) = false:=lit_ne h4
  have b5 : (x == [62,61]) = true:=lit_eq h5
  generalize Sy.inf x = y at *
  clear h0 h1 h2 h3 h4 h5
  go_enter Tryz.func154,Tryz.ntmps154
  go_wp2_with fail
  go_ret2
  rw [e.out]
  exact ⟨rfl,rfl⟩
 by_cases h6 : x = [61,61]
 ·
  have e : Hid (Sy.inf x = (24,3)):=by show _ = _;unfold Sy.inf;rw [if_neg h0,if_neg h1,if_neg h2,if_neg h3,if_neg h4,if_neg h5,if_pos h6]
  have b0 : (x == [111,114]) = false:=lit_ne h0
  have b1 : (x == [97,110,100]) = false:=lit_ne h1
  have b2 : (x == [60]) = false:=lit_ne h2
  have b3 : (x == [60,61]) = false:=lit_ne h3
  have b4 : (x == [62]) = false:=lit_ne h4
  have b5 : (x == [62,61]) = false:=lit_ne h5
  have b6 : (x == [61,61]) = true:=lit_eq h6
  generalize Sy.inf x = y at *
  clear h0 h1 h2 h3 h4 h5 h6
  go_enter Tryz.func154,Tryz.ntmps154
  go_wp2_with fail
  go_ret2
  rw [e.out]
  exact ⟨rfl,rfl⟩
 by_cases h7 : x = [33,61]
 ·
  have e : Hid (Sy.inf x = (25,3)):=by show _ = _;unfold Sy.inf;rw [if_neg h0,if_neg h1,if_neg h2,if_neg h3,if_neg h4,if_neg h5,if_neg h6,if_pos h7]
  have b0 : (x == [111,114]) = false:=lit_ne h0
  have b1 : (x == [97,110,100]) = false:=lit_ne h1
  have b2 : (x == [60]) = false:=lit_ne h2
  have b3 : (x == [60,61]) = false:=lit_ne h3
  have b4 : (x == [62]) = false:=lit_ne h4
  have b5 : (x == [62,61]) = false:=lit_ne h5
  have b6 : (x == [61,61]) = false:=lit_ne h6
  have b7 : (x == [33,61]) = true:=lit_eq h7
  generalize Sy.inf x = y at *
  clear h0 h1 h2 h3 h4 h5 h6 h7
  go_enter Tryz.func154,Tryz.ntmps154
  go_wp2_with fail
  go_ret2
  rw [e.out]
  exact ⟨rfl,rfl⟩
 by_cases h8 : x = [43]
 ·
  have e : Hid (Sy.inf x = (18,4)):=by show _ = _;unfold Sy.inf;rw [if_neg h0,if_neg h1,if_neg h2,if_neg h3,if_neg h4,if_neg h5,if_neg h6,if_neg h7,if_pos h8]
  have b0 : (x == [111,114]) = false:=lit_ne h0
  have b1 : (x == [97,110,100]) = false:=lit_ne h1
  have b2 : (x == [60]) = false:=lit_ne h2
  have b3 : (x == [60,61]) = false:=lit_ne h3
  have b4 : (x == [62]) = false:=lit_ne h4
  have b5 : (x == [62,61]) = false:=lit_ne h5
  have b6 : (x == [61,61]) = false:=lit_ne h6
  have b7 : (x == [33,61]) = false:=lit_ne h7
  have b8 : (x == [43]) = true:=lit_eq h8
  generalize Sy.inf x = y at *
  clear h0 h1 h2 h3 h4 h5 h6 h7 h8
  go_enter Tryz.func154,Tryz.ntmps154
  go_wp2_with fail
  go_ret2
  rw [e.out]
  exact ⟨rfl,rfl⟩
 by_cases h9 : x = [45]
 ·
  have e : Hid (Sy.inf x = (19,4)):=by show _ = _;unfold Sy.inf;rw [if_neg h0,if_neg h1,if_neg h2,if_neg h3,if_neg h4,if_neg h5,if_neg h6,if_neg h7,if_neg h8,if_pos h9]
  have b0 : (x == [111,114]) = false:=lit_ne h0
  have b1 : (x == [97,110,100]) = false:=lit_ne h1
  have b2 : (x == [60]) = false:=lit_ne h2
  have b3 : (x == [60,61]) = false:=lit_ne h3
  have b4 : (x == [62]) = false:=lit_ne h4
  have b5 : (x == [62,61]) = false:=lit_ne h5
  have b6 : (x == [61,61]) = false:=lit_ne h6
  have b7 : (x == [33,61]) = false:=lit_ne h7
  have b8 : (x == [43]) = false:=lit_ne h8
  have b9 : (x == [45]) = true:=lit_eq h9
  generalize Sy.inf x = y at *
  clear h0 h1 h2 h3 h4 h5 h6 h7 h8 h9
  go_enter Tryz.func154,Tryz.ntmps154
  go_wp2_with fail
  go_ret2
  rw [e.out]
  exact ⟨rfl,rfl⟩
 by_cases h10 : x = [42]
 ·
  have e : Hid (Sy.inf x = (15,5)):=by show _ = _;unfold Sy.inf;rw [if_neg h0,if_neg h1,if_neg h2,if_neg h3,if_neg h4,if_neg h5,if_neg h6,if_neg h7,if_neg h8,if_neg h9,if_pos h10]
  have b0 : (x == [111,114]) = false:=lit_ne h0
  have b1 : (x == [97,110,100]) = false:=lit_ne h1
  have b2 : (x == [60]) = false:=lit_ne h2
  have b3 : (x == [60,61]) = false:=lit_ne h3
  have b4 : (x == [62]) = false:=lit_ne h4
  have b5 : (x == [62,61]) = false:=lit_ne h5
  have b6 : (x == [61,61]) = false:=lit_ne h6
  have b7 : (x == [33,61]) = false:=lit_ne h7
  have b8 : (x == [43]) = false:=lit_ne h8
  have b9 : (x == [45]) = false:=lit_ne h9
  have b10 : (x == [42]) = true:=lit_eq h10
  generalize Sy.inf x = y at *
  clear h0 h1 h2 h3 h4 h5 h6 h7 h8 h9 h10
  go_enter Tryz.func154,Tryz.ntmps154
  go_wp2_with fail
  go_ret2
  rw [e.out]
  exact ⟨rfl,rfl⟩
 by_cases h11 : x = [47]
 ·
  have e : Hid (Sy.inf x = (16,5)):=by show _ = _;unfold Sy.inf;rw [if_neg h0,if_neg h1,if_neg h2,if_neg h3,if_neg h4,if_neg h5,if_neg h6,if_neg h7,if_neg h8,if_neg h9,if_neg h10,if_pos h11]
  have b0 : (x == [111,114]) = false:=lit_ne h0
  have b1 : (x == [97,110,100]) = false:=lit_ne h1
  have b2 : (x == [60]) = false:=lit_ne h2
  have b3 : (x == [60,61]) = false:=lit_ne h3
  have b4 : (x == [62]) = false:=lit_ne h4
  have b5 : (x == [62,61]) = false:=lit_ne h5
  have b6 : (x == [61,61]) = false:=lit_ne h6
  have b7 : (x == [33,61]) = false:=lit_ne h7
  have b8 : (x == [43]) = false:=lit_ne h8
  have b9 : (x == [45]) = false:=lit_ne h9
  have b10 : (x == [42]) = false:=lit_ne h10
  have b11 : (x == [47]) = true:=lit_eq h11
  generalize Sy.inf x = y at *
  clear h0 h1 h2 h3 h4 h5 h6 h7 h8 h9 h10 h11
  go_enter Tryz.func154,Tryz.ntmps154
  go_wp2_with fail
  go_ret2
  rw [e.out]
  exact ⟨rfl,rfl⟩
 by_cases h12 : x = [37]
 ·
  have e : Hid (Sy.inf x = (17,5)):=by show _ = _;unfold Sy.inf;rw [if_neg h0,if_neg h1,if_neg h2,if_neg h3,if_neg h4,if_neg h5,if_neg h6,if_neg h7,if_neg h8,if_neg h9,if_neg h10,if_neg h11,if_pos h12]
  have b0 : (x == [111,114]) = false:=lit_ne h0
  have b1 : (x == [97,110,100]) = false:=lit_ne h1
  have b2 : (x == [60]) = false:=lit_ne h2
  have b3 : (x == [60,61]) = false:=lit_ne h3
  have b4 : (x == [62]) = false:=lit_ne h4
  have b5 : (x == [62,61]) = false:=lit_ne h5
  have b6 : (x == [61,61]) = false:=lit_ne h6
  have b7 : (x == [33,61]) = false:=lit_ne h7
  have b8 : (x == [43]) = false:=lit_ne h8
  have b9 : (x == [45]) = false:=lit_ne h9
  have b10 : (x == [42]) = false:=lit_ne h10
  have b11 : (x == [47]) = false:=lit_ne h11
  have b12 : (x == [37]) = true:=lit_eq h12
  generalize Sy.inf x = y at *
  clear h0 h1 h2 h3 h4 h5 h6 h7 h8 h9 h10 h11 h12
  go_enter Tryz.func154,Tryz.ntmps154
  go_wp2_with fail
  go_ret2
  rw [e.out]
  exact ⟨rfl,rfl⟩
 have e : Hid (Sy.inf x = (0,0)):=by show _ = _;unfold Sy.inf;rw [if_neg h0,if_neg h1,if_neg h2,if_neg h3,if_neg h4,if_neg h5,if_neg h6,if_neg h7,if_neg h8,if_neg h9,if_neg h10,if_neg h11,if_neg h12]
 have b0 : (x == [111,114]) = false:=lit_ne h0
 have b1 : (x == [97,110,100]) = false:=lit_ne h1
 have b2 : (x == [60]) = false:=lit_ne h2
 have b3 : (x == [60,61]) = false:=lit_ne h3
 have b4 : (x == [62]) = false:=lit_ne h4
 have b5 : (x == [62,61]) = false:=lit_ne h5
 have b6 : (x == [61,61]) = false:=lit_ne h6
 have b7 : (x == [33,61]) = false:=lit_ne h7
 have b8 : (x == [43]) = false:=lit_ne h8
 have b9 : (x == [45]) = false:=lit_ne h9
 have b10 : (x == [42]) = false:=lit_ne h10
 have b11 : (x == [47]) = false:=lit_ne h11
 have b12 : (x == [37]) = false:=lit_ne h12
 generalize Sy.inf x = y at *
 clear h0 h1 h2 h3 h4 h5 h6 h7 h8 h9 h10 h11 h12
 go_enter Tryz.func154,Tryz.ntmps154
 go_wp2_with fail
 go_ret2
 rw [e.out]
 exact ⟨rfl,rfl⟩
theorem inf_pos {x : List UInt8} {v : Nat} (h : (Sy.inf x).2 = v) (hv : v ≠ 0) : x ≠ []:=by
 intro e;subst e;exact hv h.symm
theorem operator_yes (v : Nat) (g : Nat) (L : List T) (t : T) (r : List T) (w : World) (h : Pt w g L (t :: r)) (hv : v ≠ 0) (hf : (Sy.inf (fx (t :: r))).2 = v) :
  Calls Tryz.prog 108 #[.pointer (some ⟨g,0,none⟩),.int .i64 (v : Int)] w (Moved g L r w (.tuple #[.int .i64 (Sy.inf (fx (t :: r))).1,.bool true])):=by
 have C1:=hid (fixed_any g L t r w h)
 have C2:=hid (fun W => infix_any (fx (t :: r)) W)
 have H:=hid h
 have hk : Hid (t.k ≠ 0):=Sy.fx_k rfl (inf_pos hf hv)
 have hb : (((Sy.inf (fx (t :: r))).2 : Int) != (v : Int)) = false:=by simp [hf]
 have hn2 : L.length - (t :: r).length <= 20000:=by have:=h.len;omega
 obtain ⟨n,hn⟩ : ∃ n,n = L.length - (t :: r).length:=⟨_,rfl⟩
 rw [<- hn] at hn2
 have HN:=hid hn
 clear h hf hn
 generalize Sy.inf (fx (t :: r)) = y at *
 generalize fx (t :: r) = x at *
 obtain ⟨y1,y2⟩:=y
 simp only at *
 go_enter Tryz.func108,Tryz.ntmps108
 go_wp2_with fail
 refine C1.out.mono ?_
 rintro e w1 ⟨rfl,hb1⟩
 have HB:=hid hb1
 have H1:=hid (H.out.below hb1)
 clear hb1
 have hc:=H1.out.cell1' HN.out
 have hfr:=H1.out.free 1
 go_wp2_with fail
 refine (C2.out _).mono ?_
 rintro e w1 ⟨rfl,rfl⟩
 go_wp2_with fail
 go_ret2
 exact ⟨rfl,H1.out.step' hk.out HN.out,(Ch.of_below HB.out).trans (Ch.set _ _ _ _)⟩
theorem operator_no (v : Nat) (g : Nat) (L : List T) (t : T) (r : List T) (w : World) (h : Pt w g L (t :: r)) (hf : (Sy.inf (fx (t :: r))).2 ≠ v) :
  Calls Tryz.prog 108 #[.pointer (some ⟨g,0,none⟩),.int .i64 (v : Int)] w (Moved g L (t :: r) w (.tuple #[.int .i64 0,.bool false])):=by
 have C1:=hid (fixed_any g L t r w h)
 have C2:=hid (fun W => infix_any (fx (t :: r)) W)
 have H:=hid h
 have hb : (((Sy.inf (fx (t :: r))).2 : Int) != (v : Int)) = true:=by simp;omega
 clear h hf
 generalize Sy.inf (fx (t :: r)) = y at *
 generalize fx (t :: r) = x at *
 obtain ⟨y1,y2⟩:=y
 simp only at *
 go_enter Tryz.func108,Tryz.ntmps108
 go_wp2_with fail
 refine C1.out.mono ?_
 rintro e w1 ⟨rfl,hb1⟩
 have HB:=hid hb1
 have H1:=hid (H.out.below hb1)
 clear hb1
 go_wp2_with fail
 refine (C2.out _).mono ?_
 rintro e w1 ⟨rfl,rfl⟩
 go_wp2_with fail
 go_ret2
 exact ⟨rfl,H1.out,Ch.of_below HB.out⟩
end Go.Proofs.YtgeppafcemeidaaGreatDoor
namespace Go.Proofs.YtgeppafcemeidaaGreatDoor
open Go.RowKit
open Sy (N NT R Ev Run Pg fx hd body)
open Tk (T)
open Sy (Fin TB)
section
variable {α : Type} (l : List α) (a b : α) (i : Nat)
theorem y1 : l.toArray.setIfInBounds i a = (l.set i a).toArray:=by simp
theorem y2 : (a :: l).set 0 b = b :: l:=rfl
theorem y3 : (a :: l).set (i + 1) b = a :: l.set i b:=rfl
theorem y4 (h : i < l.toArray.size) : l.toArray[i] = l[i]'(by simpa using h):=by simp
theorem y5 (h : 0 < (a :: l).length) : (a :: l)[0] = a:=rfl
theorem y6 (h : i + 1 < (a :: l).length) : (a :: l)[i + 1] = l[i]'(by simpa using h):=rfl
end
namespace Sy
inductive RunN : Nat -> Pg -> R -> Prop
 | ret (n : Nat) (r : R) : RunN n (.ret r) r
 | call {n : Nat} {nt : NT} {l : List T} {k : R -> Pg} {r1 r : R} : RunN n (body nt l) r1 -> RunN (n + 1) (k r1) r -> RunN (n + 1) (.call nt l k) r
def EvN (n : Nat) (nt : NT) (l : List T) (r : R) : Prop:=RunN n (body nt l) r
theorem RunN.succ {n : Nat} {p : Pg} {r : R} (h : RunN n p r) : RunN (n + 1) p r:=by
 induction h with
 | ret n r => exact .ret _ _
 | call _ _ h1 h2 => exact .call h1 h2
theorem RunN.le {n m : Nat} {p : Pg} {r : R} (h : RunN n p r) (hm : n <= m) : RunN m p r:=by
 induction hm with
 | refl => exact h
 | step _ ih => exact ih.succ
theorem Run.toN {p : Pg} {r : R} (h : Run p r) : ∃ n,RunN n p r:=by
 induction h with
 | ret r => exact ⟨0,.ret _ _⟩
 | call _ _ h1 h2 =>
  obtain ⟨a,h1⟩:=h1
  obtain ⟨b,h2⟩:=h2
  exact ⟨a + b + 1,.call (h1.le (by omega)) (h2.le (by omega))⟩
theorem RunN.run {n : Nat} {p : Pg} {r : R} (h : RunN n p r) : Run p r:=by
 induction h with
 | ret n r => exact .ret _
 | call _ _ h1 h2 => exact .call h1 h2
theorem EvN.ev {n : Nat} {nt : NT} {l : List T} {r : R} (h : EvN n nt l r) : Ev nt l r:=RunN.run h
theorem inv_ret {n : Nat} {r r' : R} (h : RunN n (.ret r) r') : r' = r:=by cases h;rfl
theorem inv_call {n : Nat} {nt : NT} {l : List T} {k : R -> Pg} {r : R} (h : RunN n (.call nt l k) r) : ∃ m r1,n = m + 1 /\ EvN m nt l r1 /\ RunN (m + 1) (k r1) r:=by
 cases h with
 | call h1 h2 => exact ⟨_,_,rfl,h1,h2⟩
theorem inv_tail {n : Nat} {nt : NT} {l : List T} {r : R} (h : RunN n (.call nt l .ret) r) : ∃ m,n = m + 1 /\ EvN m nt l r:=by
 obtain ⟨m,r1,e,h1,h2⟩:=inv_call h
 cases inv_ret h2
 exact ⟨m,e,h1⟩
theorem inv_cl {n : Nat} {nt : NT} {l : List T} {k : N -> List T -> Pg} {r : R} (h : RunN n (cl nt l k) r) : ∃ m,n = m + 1 /\ ((∃ q,EvN m nt l (.bad q) /\ r = .bad q) \/ ∃ a q,EvN m nt l (.ok a q) /\ RunN (m + 1) (k a q) r):=by
 obtain ⟨m,r1,e,h1,h2⟩:=inv_call h
 refine ⟨m,e,?_⟩
 cases r1 with
 | ok a q => exact .inr ⟨a,q,h1,h2⟩
 | bad q => exact .inl ⟨q,h1,inv_ret h2⟩
theorem inv_tk {n : Nat} {s : List UInt8} {l : List T} {k : List T -> Pg} {r : R} (h : RunN n (tk s l k) r) : (fx l = s /\ RunN n (k l.tail) r) \/ (fx l ≠ s /\ r = .bad l):=by
 unfold tk at h
 by_cases hf : fx l = s
 ·
  rw [if_pos hf] at h;exact .inl ⟨hf,h⟩
 ·
  rw [if_neg hf] at h;exact .inr ⟨hf,inv_ret h⟩
theorem inv_nm {n : Nat} {l : List T} {k : List UInt8 -> List T -> Pg} {r : R} (h : RunN n (nm l k) r) : ((hd l).k = 1 /\ RunN n (k (hd l).t l.tail) r) \/ ((hd l).k ≠ 1 /\ r = .bad l):=by
 unfold nm at h
 by_cases hf : (hd l).k = 1
 ·
  rw [if_pos hf] at h;exact .inl ⟨hf,h⟩
 ·
  rw [if_neg hf] at h;exact .inr ⟨hf,inv_ret h⟩
theorem inv_if {n : Nat} {c : Prop} [Decidable c] {p q : Pg} {r : R} (h : RunN n (if c then p else q) r) : (c /\ RunN n p r) \/ (¬ c /\ RunN n q r):=by
 by_cases hc : c
 ·
  rw [if_pos hc] at h;exact .inl ⟨hc,h⟩
 ·
  rw [if_neg hc] at h;exact .inr ⟨hc,h⟩
end Sy
open Sy (RunN EvN)
def Post (g : Nat) (L : List T) (w : World) (r : R) (e : Ending) (w' : World) : Prop:=match r with
 | .ok a l => ∃ A c,e = .returned (ndV a.op a.nm a.n a.t A a.l.length c) /\ NA w' (fun b => w.heap.size <= b) (ndV a.op a.nm a.n a.t A a.l.length c) a /\ Pt w' g L l /\ Ch g w w'
 | .bad l => Fell g l w e w'
def CF (K : Nat) (l : List T) (r : R) : Prop:=∀ (g : Nat) (L : List T) (w : World),Pt w g L l -> Calls Tryz.prog K #[.pointer (some ⟨g,0,none⟩)] w (Post g L w r)
def CN (n : Nat) (nt : NT) (K : Nat) : Prop:=∀ m,m < n -> ∀ l r,EvN m nt l r -> CF K l r
def CG (K : Nat) (op : Int) (l : List T) (r : R) : Prop:=∀ (g : Nat) (L : List T) (w : World),Pt w g L l -> Calls Tryz.prog K #[.pointer (some ⟨g,0,none⟩),.int .i64 op] w (Post g L w r)
def CM (n : Nat) (nt : Int -> NT) (K : Nat) : Prop:=∀ op : Int,0 <= op -> op <= 100 -> ∀ m,m < n -> ∀ l r,EvN m (nt op) l r -> CG K op l r
theorem bl {w : World} (o : Obj) : Below w.heap.size w (w.alloc o):=(Below.refl _ _).alloc (Nat.le_refl _) _
def zNode : Obj:=.cells #[.int .i64 0,.string ⟨#[]⟩,.int .i64 0,.string ⟨#[]⟩,.slice none 0 0] 25 (0,0)
def Nb (w : World) (k : Nat) (op : Int) (s : List UInt8) (n : Int) (t : List UInt8) (A : Option Addr) (m c : Nat) : Prop :=
 w.heap[k]? = some (.cells #[.int .i64 op,.string ⟨s.toArray⟩,.int .i64 n,.string ⟨t.toArray⟩,.slice A m c] 25 (0,0))
section
variable {w w' : World} {k g m c : Nat} {op n : Int} {s t : List UInt8} {A : Option Addr}
theorem Nb.c0 (h : Nb w k op s n t A m c) : w.cell? ⟨k,0,none⟩ = some (.int .i64 op):=by have:=cellAt h 0;simpa using this
theorem Nb.c1 (h : Nb w k op s n t A m c) : w.cell? ⟨k,1,none⟩ = some (.string ⟨s.toArray⟩):=by have:=cellAt h 1;simpa using this
theorem Nb.c2 (h : Nb w k op s n t A m c) : w.cell? ⟨k,2,none⟩ = some (.int .i64 n):=by have:=cellAt h 2;simpa using this
theorem Nb.c3 (h : Nb w k op s n t A m c) : w.cell? ⟨k,3,none⟩ = some (.string ⟨t.toArray⟩):=by have:=cellAt h 3;simpa using this
theorem Nb.c4 (h : Nb w k op s n t A m c) : w.cell? ⟨k,4,none⟩ = some (.slice A m c):=by have:=cellAt h 4;simpa using this
theorem Nb.free (h : Nb w k op s n t A m c) (i : Nat) : w.frozen? ⟨k,i,none⟩ = false:=freeAt h i
theorem Nb.lt (h : Nb w k op s n t A m c) : k < w.heap.size:=(Array.getElem?_eq_some_iff.1 h).1
theorem Nb.ch (h : Nb w k op s n t A m c) (hc : Ch g w w') (hk : k ≠ g) : Nb w' k op s n t A m c:=hc.obj h hk
theorem Nb.below (h : Nb w k op s n t A m c) (hc : Below w.heap.size w w') : Nb w' k op s n t A m c:=(hc.block k h.lt).trans h
theorem Nb.new : Nb (w.alloc (.cells #[.int .i64 op,.string ⟨s.toArray⟩,.int .i64 n,.string ⟨t.toArray⟩,.slice A m c] 25)) w.heap.size op s n t A m c:=heap_alloc_new w _
theorem Ch.new {k : Nat} {w w1 w2 : World} {g : Nat} (a : Ch g w w1) (b : Ch k w1 w2) (hk : w.heap.size <= k) : Ch g w w2 :=
 ⟨b.os.trans a.os,b.tape.trans a.tape,b.output.trans a.output,Nat.le_trans a.size b.size,fun j hj hne => (b.block j (Nat.lt_of_lt_of_le hj a.size) (fun e => by injection e;omega)).trans (a.block j hj hne)⟩
theorem st5 (w : World) (k : Nat) (a0 a1 a2 a3 a4 : Value) : Ch k w (((((w.setCell ⟨k,0,none⟩ a0).setCell ⟨k,1,none⟩ a1).setCell ⟨k,2,none⟩ a2).setCell ⟨k,3,none⟩ a3).setCell ⟨k,4,none⟩ a4) :=
 ((((Ch.set _ _ _ _).trans (Ch.set _ _ _ _)).trans (Ch.set _ _ _ _)).trans (Ch.set _ _ _ _)).trans (Ch.set _ _ _ _)
theorem heap_set {w : World} {k i : Nat} {cs : Array Value} {ty : TypeId} {fr : Nat × Nat} {u : Value} (h : w.heap[k]? = some (.cells cs ty fr)) : (w.setCell ⟨k,i,none⟩ u).heap[k]? = some (.cells (cs.setIfInBounds i u) ty fr):=by
 have hlt:=(Array.getElem?_eq_some_iff.1 h).1
 simp only [World.setCell]
 rw [Array.getElem?_modify]
 simp only [if_true]
 rw [h]
 simp
theorem Nb.st5 {op' n' : Int} {s' t' : List UInt8} {A' : Option Addr} {m' c' : Nat} (h : Nb w k op s n t A m c) :
  Nb (((((w.setCell ⟨k,0,none⟩ (.int .i64 op')).setCell ⟨k,1,none⟩ (.string ⟨s'.toArray⟩)).setCell ⟨k,2,none⟩ (.int .i64 n')).setCell ⟨k,3,none⟩ (.string ⟨t'.toArray⟩)).setCell ⟨k,4,none⟩ (.slice A' m' c')) k op' s' n' t' A' m' c':=by
 have h1:=heap_set (i:=0) (u:=.int .i64 op') h
 have h2:=heap_set (i:=1) (u:=.string ⟨s'.toArray⟩) h1
 have h3:=heap_set (i:=2) (u:=.int .i64 n') h2
 have h4:=heap_set (i:=3) (u:=.string ⟨t'.toArray⟩) h3
 have h5:=heap_set (i:=4) (u:=.slice A' m' c') h4
 exact h5.trans rfl
theorem Nb.zero : Nb (w.alloc zNode) w.heap.size 0 [] 0 [] none 0 0:=heap_alloc_new w _
end
structure AllX (n : Nat) : Prop where
 expr : CN n (.chain 1) 35
 conj : CN n (.chain 2) 61
 neg : CN n .neg 109
 cmp : CN n .cmp 155
 sum : CN n (.chain 4) 180
 prod : CN n (.chain 5) 207
 unary : CN n .unary 225
 post : CN n .post 242
 prim : CN n .prim 248
 pair : CN n .pair 252
 lit : CN n .lit 171
 fcall : CM n .fcall 222
structure AllS (n : Nat) : Prop where
 decl_ : CN n .decl 49
 global_ : CN n .global 85
 const_ : CN n .const 136
 func_ : CN n .func 86
 block_ : CN n .block 139
 stmt_ : CN n .stmt 172
 cond_ : CN n .cond 196
 result_ : CN n .result 197
 attempt_ : CN n .attempt 199
 comp_ : CN n .comp 200
 choice_ : CN n .choice 201
 branch_ : CN n .branch 223
 handler_ : CM n .handler 88
 closed_ : CM n .closed 198
 assign_ : CM n .assign 195
theorem Ch.belowb {w w1 w2 : World} {g base : Nat} (a : Ch g w w1) (b : Below base w1 w2) (hb : w.heap.size <= base) : Ch g w w2 :=
 ⟨b.os.trans a.os,b.tape.trans a.tape,b.output.trans a.output,Nat.le_trans a.size b.size,fun j hj hne => (b.block j (by omega)).trans (a.block j hj hne)⟩
theorem Pt.belowb {w w' : World} {g base : Nat} {L l : List T} (h : Pt w g L l) (hb : Below base w w') (hg : g < base) : Pt w' g L l:=by
 obtain ⟨b,o,c,h1,h2,h3,h4⟩:=h
 refine ⟨b,o,c,(hb.block g hg).trans h1,h2,fun i t hi => ?_,h4⟩
 obtain ⟨q0,q1,q2,q3⟩:=h3 i t hi
 have kk : ∀ {j : Nat} {u : Value},w.cell? ⟨b,j,none⟩ = some u -> w'.cell? ⟨b,j,none⟩ = some u:=fun hh => (hb.cell (p:=⟨b,_,none⟩) (show b < base by omega)).trans hh
 exact ⟨kk q0,kk q1,kk q2,kk q3⟩
theorem Nb.belowb {w w' : World} {k base : Nat} {op n : Int} {s t : List UInt8} {A : Option Addr} {m c : Nat} (h : Nb w k op s n t A m c) (hb : Below base w w') (hk : k < base) : Nb w' k op s n t A m c:=(hb.block k hk).trans h
theorem fin_st {w W : World} {g : Nat} {L l : List T} {op n : Int} {s t : List UInt8} {A : Option Addr} {m c : Nat} {a : N} (HP : Pt W g L l) (HC : Ch g w W) (hg : g < w.heap.size) (hna : NA W (fun b => w.heap.size < b) (ndV op s n t A m c) a) :
  Post g L w (.ok a l) (.returned (ndV op s n t A m c)) (((((W.setCell ⟨w.heap.size,0,none⟩ (.int .i64 op)).setCell ⟨w.heap.size,1,none⟩ (.string ⟨s.toArray⟩)).setCell ⟨w.heap.size,2,none⟩ (.int .i64 n)).setCell ⟨w.heap.size,3,none⟩ (.string ⟨t.toArray⟩)).setCell ⟨w.heap.size,4,none⟩ (.slice A m c)):=by
 have G:=st5 W w.heap.size (.int .i64 op) (.string ⟨s.toArray⟩) (.int .i64 n) (.string ⟨t.toArray⟩) (.slice A m c)
 obtain ⟨A',c',e,_⟩:=hna.open_
 refine ⟨A',c',by rw [e];rfl,?_,HP.chk G hg,HC.new G (Nat.le_refl _)⟩
 rw [show ndV a.op a.nm a.n a.t A' a.l.length c' = ndV op s n t A m c from e.symm]
 exact (hna.ch G (by simp)).more (fun b hb _ => Nat.le_of_lt hb)
theorem na_nd {W : World} {S : Nat -> Prop} {op : Int} {s t : List UInt8} {n : Int} {l : List N} {A : Option Addr} {c : Nat} (ho : 0 <= op /\ op <= 100) (hn : 0 <= n /\ n <= 9223372036854775807) (hs : s.length <= 20000) (ht : t.length <= 20000) (hl : l.length <= 1000000) (h : KR W S (.slice A l.length c) l) :
  NA W S (ndV op s n t A l.length c) (.mk op s n t l):=NA.mk_ ⟨by omega,by omega,by omega,by omega,by omega,by omega,by omega⟩ h
theorem inf_op (x : List UInt8) : 0 <= (Sy.inf x).1 /\ (Sy.inf x).1 <= 100:=by
 unfold Sy.inf
 by_cases h : x = [111,114]
 ·
  rw [if_pos h];exact ⟨by decide,by decide⟩
 rw [if_neg h];clear h
 by_cases h : x = [97,110,100]
 ·
  rw [if_pos h];exact ⟨by decide,by decide⟩
 rw [if_neg h];clear h
 by_cases h : x = [60]
 ·
  rw [if_pos h];exact ⟨by decide,by decide⟩
 rw [if_neg h];clear h
 by_cases h : x = [60,61]
 ·
  rw [if_pos h];exact ⟨by decide,by decide⟩
 rw [if_neg h];clear h
 by_cases h : x = [62]
 ·
  rw [if_pos h];exact ⟨by decide,by decide⟩
 rw [if_neg h];clear h
 by_cases h : x = [62,61]
 ·
  rw [if_pos h];exact ⟨by decide,by decide⟩
 rw [if_neg h];clear h
 by_cases h : x = [61,61]
 ·
  rw [if_pos h];exact ⟨by decide,by decide⟩
 rw [if_neg h];clear h
 by_cases h : x = [33,61]
 ·
  rw [if_pos h];exact ⟨by decide,by decide⟩
 rw [if_neg h];clear h
 by_cases h : x = [43]
 ·
  rw [if_pos h];exact ⟨by decide,by decide⟩
 rw [if_neg h];clear h
 by_cases h : x = [45]
 ·
  rw [if_pos h];exact ⟨by decide,by decide⟩
 rw [if_neg h];clear h
 by_cases h : x = [42]
 ·
  rw [if_pos h];exact ⟨by decide,by decide⟩
 rw [if_neg h];clear h
 by_cases h : x = [47]
 ·
  rw [if_pos h];exact ⟨by decide,by decide⟩
 rw [if_neg h];clear h
 by_cases h : x = [37]
 ·
  rw [if_pos h];exact ⟨by decide,by decide⟩
 rw [if_neg h];clear h
 exact ⟨by decide,by decide⟩
section
variable {w W W' : World} {g K : Nat} {L l l' : List T} {args : Array Value} {v : Value} {x : N} {S' : Nat -> Prop} {Q : Ending -> World -> Prop}
theorem mv2 (h : Calls Tryz.prog K args W (fun e w' => e = .returned v /\ Pt w' g L l' /\ Ch g W w')) (hC : Ch g w W) (_ : g < w.heap.size)
  (k : ∀ w',Hid (Pt w' g L l') -> Hid (Ch g w w') -> g < w'.heap.size -> Ch g W w' -> Q (.returned v) w') : Calls Tryz.prog K args W Q:=by
 refine h.mono ?_
 rintro e w' ⟨rfl,hp,hc⟩
 exact k w' hp (hC.trans hc) hp.lt hc
theorem mv3 (h : Calls Tryz.prog K args W (fun e w' => e = .returned v /\ Pt w' g L l' /\ Ch g W w')) (hC : Ch g w W) (hZ : Nb W w.heap.size 0 [] 0 [] none 0 0) (hg : g < w.heap.size)
  (k : ∀ w',Hid (Pt w' g L l') -> Hid (Ch g w w') -> Hid (Nb w' w.heap.size 0 [] 0 [] none 0 0) -> w.heap.size < w'.heap.size -> g < w'.heap.size -> Ch g W w' -> Q (.returned v) w') : Calls Tryz.prog K args W Q:=by
 refine h.mono ?_
 rintro e w' ⟨rfl,hp,hc⟩
 have z:=hZ.ch hc (by omega)
 exact k w' hp (hC.trans hc) z z.lt hp.lt hc
theorem qt3 (h : Calls Tryz.prog K args W (fun e w' => e = .returned v /\ Below W.heap.size W w')) (hP : Pt W g L l) (hC : Ch g w W) (hZ : Nb W w.heap.size 0 [] 0 [] none 0 0)
  (k : ∀ w',Hid (Pt w' g L l) -> Hid (Ch g w w') -> Hid (Nb w' w.heap.size 0 [] 0 [] none 0 0) -> w.heap.size < w'.heap.size -> g < w'.heap.size -> Below W.heap.size W w' -> Q (.returned v) w') : Calls Tryz.prog K args W Q:=by
 refine h.mono ?_
 rintro e w' ⟨rfl,hb⟩
 have p:=hP.below hb
 have z:=hZ.below hb
 exact k w' p (hC.trans (Ch.of_below hb)) z z.lt p.lt hb
theorem ok2 (h : Calls Tryz.prog K args W (Post g L W (.ok x l'))) (hC : Ch g w W) (_ : g < w.heap.size) (hS : ∀ b,W.heap.size <= b -> S' b)
  (k : ∀ A c w',Hid (NA w' S' (ndV x.op x.nm x.n x.t A x.l.length c) x) -> Hid (Pt w' g L l') -> Hid (Ch g w w') -> g < w'.heap.size -> Ch g W w' -> Q (.returned (ndV x.op x.nm x.n x.t A x.l.length c)) w') : Calls Tryz.prog K args W Q:=by
 refine h.mono ?_
 rintro e w' ⟨A,c,rfl,hn,hp,hc⟩
 exact k A c w' (hn.more (fun b hb _ => hS b hb)) hp (hC.trans hc) hp.lt hc
theorem ok3 (h : Calls Tryz.prog K args W (Post g L W (.ok x l'))) (hC : Ch g w W) (hZ : Nb W w.heap.size 0 [] 0 [] none 0 0) (hg : g < w.heap.size) (hS : ∀ b,W.heap.size <= b -> S' b)
  (k : ∀ A c w',Hid (NA w' S' (ndV x.op x.nm x.n x.t A x.l.length c) x) -> Hid (Pt w' g L l') -> Hid (Ch g w w') -> Hid (Nb w' w.heap.size 0 [] 0 [] none 0 0) -> w.heap.size < w'.heap.size -> g < w'.heap.size -> Ch g W w' -> Q (.returned (ndV x.op x.nm x.n x.t A x.l.length c)) w') : Calls Tryz.prog K args W Q:=by
 refine h.mono ?_
 rintro e w' ⟨A,c,rfl,hn,hp,hc⟩
 have z:=hZ.ch hc (by omega)
 exact k A c w' (hn.more (fun b hb _ => hS b hb)) hp (hC.trans hc) z z.lt hp.lt hc
theorem gw3 (hP : Pt W g L l) (hC : Ch g w W) (hZ : Nb W w.heap.size 0 [] 0 [] none 0 0) (hb : Below W.heap.size W W') : Hid (Pt W' g L l) /\ Hid (Ch g w W') /\ Hid (Nb W' w.heap.size 0 [] 0 [] none 0 0) /\ w.heap.size < W'.heap.size /\ g < W'.heap.size :=
 ⟨hP.below hb,hC.trans (Ch.of_below hb),hZ.below hb,(hZ.below hb).lt,(hP.below hb).lt⟩
end
end Go.Proofs.YtgeppafcemeidaaGreatDoor
namespace Go.Proofs.YtgeppafcemeidaaGreatDoor
open Tk (T)
namespace Sy
def LeR (m : Nat) : R -> Prop
 | .ok _ q => q.length <= m
 | .bad q => q.length <= m
theorem LeR.mono {m n : Nat} {r : R} (h : LeR m r) (hm : m <= n) : LeR n r:=by cases r <;> exact Nat.le_trans h hm
def WL (m : Nat) (p : Pg) : Prop:=Wp (fun _ l r => LeR l.length r) p (LeR m)
theorem WL.ret {m : Nat} {r : R} (h : LeR m r) : WL m (.ret r):=h
theorem WL.tail {m : Nat} {nt : NT} {l : List T} (h : l.length <= m) : WL m (.call nt l .ret):=fun _ h1 => h1.mono h
theorem WL.cl {m : Nat} {nt : NT} {l : List T} {k : N -> List T -> Pg} (h : l.length <= m) (hk : ∀ a q,q.length <= m -> WL m (k a q)) : WL m (cl nt l k):=by
 intro r1 h1
 cases r1 with
 | ok a q => exact hk a q (Nat.le_trans h1 h)
 | bad q => exact Nat.le_trans h1 h
theorem tl_le {m : Nat} {l : List T} (h : l.length <= m) : l.tail.length <= m:=by simp;omega
theorem WL.tk {m : Nat} {s : List UInt8} {l : List T} {k : List T -> Pg} (h : l.length <= m) (hk : l.tail.length <= m -> WL m (k l.tail)) : WL m (tk s l k):=by
 unfold Sy.tk;split
 ·
  exact hk (tl_le h)
 ·
  exact h
theorem WL.nm {m : Nat} {l : List T} {k : List UInt8 -> List T -> Pg} (h : l.length <= m) (hk : l.tail.length <= m -> WL m (k (hd l).t l.tail)) : WL m (nm l k):=by
 unfold Sy.nm;split
 ·
  exact hk (tl_le h)
 ·
  exact h
theorem WL.ite {m : Nat} {c : Prop} [Decidable c] {p q : Pg} (h1 : WL m p) (h2 : WL m q) : WL m (if c then p else q):=by split <;> assumption
theorem body_le (nt : NT) (l : List T) : WL l.length (body nt l):=by
 cases nt <;> unfold body <;> simp only []
 all_goals
  repeat (first
   | exact WL.ret (by first | exact Nat.le_refl _ | (simp [LeR];done) | (simp [LeR];omega))
   | exact WL.tail (by first | exact Nat.le_refl _ | assumption | (simp;done) | (simp;omega))
   | refine WL.ite ?_ ?_
   | (refine WL.cl (by first | exact Nat.le_refl _ | assumption | (simp;done) | (simp;omega)) ?_;intro a q hq)
   | (refine WL.tk (by first | exact Nat.le_refl _ | assumption | (simp;done) | (simp;omega)) ?_;intro hq)
   | (refine WL.nm (by first | exact Nat.le_refl _ | assumption | (simp;done) | (simp;omega)) ?_;intro hq))
theorem ev_le {nt : NT} {l : List T} {r : R} (h : Ev nt l r) : LeR l.length r:=ev_inv (I:=fun _ l r => LeR l.length r) (fun nt l => body_le nt l) h
end Sy
end Go.Proofs.YtgeppafcemeidaaGreatDoor
namespace Go.Proofs.YtgeppafcemeidaaGreatDoor
open Go.RowKit
open Sy (N NT R Ev Run Pg fx hd body opnd inf RunN EvN nd nmd)
open Tk (T)
open Sy (Fin TB)
attribute [local go_sem ↓] Tryz.field0 Tryz.field1
def posP (w : World) (g : Nat) : Nat:=match w.cell? ⟨g,1,none⟩ with
 | some (.int _ n) => n.toNat
 | _ => 0
theorem Pt.pos {w : World} {g : Nat} {L l : List T} (h : Pt w g L l) : posP w g = L.length - l.length:=by
 unfold posP;rw [h.cell1];simp
def ChRel (n v : Nat) (w : World) (g B0 B1 : Nat) (L : List T) (r : R) (wr : World) : Prop:=∃ m a q A c,m < n /\ EvN m (.loop v a) q r /\ Nb wr B1 a.op a.nm a.n a.t A a.l.length c /\ NA wr (fun b => B0 < b /\ b ≠ B1) (ndV a.op a.nm a.n a.t A a.l.length c) a /\ Pt wr g L q /\ Ch g w wr /\ Nb wr B0 0 [] 0 [] none 0 0
theorem chain_any (v K n : Nat) (hv : v ≠ 0) (hen : ∀ (args : Array Value) (W : World),(callFunc K args).run Tryz.prog W = .ok (.enter K args) W) (hK : CN n (opnd v) K) (l : List T) (r : R) (hE : EvN n (.chain v) l r) (g : Nat) (L : List T) (w : World) (h : Pt w g L l) :
  Calls Tryz.prog 60 #[.pointer (some ⟨g,0,none⟩),.int .i64 (v : Int),.func (.func K) #[.pointer (some ⟨g,0,none⟩)] #[]] w (Post g L w r):=by
 have hlt:=h.lt
 have HCN:=hid hK
 obtain ⟨m1,hm1,hE⟩:=Sy.inv_cl (show RunN n (Sy.cl (opnd v) l fun a r => .call (.loop v a) r .ret) r from hE)
 clear hK
 rcases hE with ⟨q,hE1,rfl⟩ | ⟨a,q,hE1,hE2⟩
 ·
  have C1:=hid (fun W (hW : Pt W g L l) => HCN.out m1 (by omega) _ _ hE1 g L W hW)
  clear hE1 hm1
  have HP : Hid (Pt (w.alloc zNode) g L (l)):=h.below (bl _)
  have HC : Hid (Ch g w (w.alloc zNode)):=Ch.of_below (bl _)
  have HZ : Hid (Nb (w.alloc zNode) w.heap.size 0 [] 0 [] none 0 0):=Nb.zero
  have hz:=HZ.out.lt
  have hgl:=HP.out.lt
  clear h
  go_enter Tryz.func60,Tryz.ntmps60
  go_wp2_with fail
  refine (C1.out _ HP.out).mono ?_
  intro e wz hp
  obtain ⟨rfl,hc⟩:=hp
  go_wp2_with fail
  exact ⟨rfl,rfl,HC.out.trans hc⟩
 ·
  obtain ⟨m2,hm2,hE2⟩:=Sy.inv_tail hE2
  have C1:=hid (fun W (hW : Pt W g L l) => HCN.out m1 (by omega) _ _ hE1 g L W hW)
  have HE2:=hid hE2
  have hmn : m2 < n:=by omega
  clear hE1 hm1 hE2 hm2
  have HP : Hid (Pt (w.alloc zNode) g L (l)):=h.below (bl _)
  have HC : Hid (Ch g w (w.alloc zNode)):=Ch.of_below (bl _)
  have HZ : Hid (Nb (w.alloc zNode) w.heap.size 0 [] 0 [] none 0 0):=Nb.zero
  have hz:=HZ.out.lt
  have hgl:=HP.out.lt
  clear h
  go_enter Tryz.func60,Tryz.ntmps60
  go_wp2_with fail
  refine (C1.out _ HP.out).mono ?_
  intro e w1 hp
  obtain ⟨Ax,cx,rfl,hna,hp,hc⟩:=hp
  have NAx:=hid (hna.more (S':=fun b => w.heap.size < b) (fun b hb _ => Nat.lt_of_lt_of_le hz hb))
  replace HP:=hid hp
  replace HC:=hid (HC.out.trans hc)
  replace HZ:=hid (HZ.out.ch hc (by omega))
  replace hz:=HZ.out.lt
  replace hgl:=HP.out.lt
  clear hc hp hna
  unfold ndV
  have hB01 : w.heap.size < w1.heap.size:=hz
  have hna1 : Hid (NA w1 (fun b => w.heap.size < b /\ b ≠ w1.heap.size) (ndV a.op a.nm a.n a.t Ax a.l.length cx) a):=NAx.out.more (fun b hb hlt => ⟨hb,by omega⟩)
  have hbx : Below w1.heap.size w1 (w1.alloc (.cells #[.int .i64 a.op,.string ⟨a.nm.toArray⟩,.int .i64 a.n,.string ⟨a.t.toArray⟩,.slice Ax a.l.length cx] 25)):=bl _
  have HN : Hid (Nb (w1.alloc (.cells #[.int .i64 a.op,.string ⟨a.nm.toArray⟩,.int .i64 a.n,.string ⟨a.t.toArray⟩,.slice Ax a.l.length cx] 25)) w1.heap.size a.op a.nm a.n a.t Ax a.l.length cx):=Nb.new
  replace HP:=hid (HP.out.below hbx)
  replace HC:=hid (HC.out.trans (Ch.of_below hbx))
  replace NAx:=hid (NAx.out.below hbx)
  replace HZ:=hid (HZ.out.below hbx)
  replace hz:=HZ.out.lt
  replace hgl:=HP.out.lt
  clear hbx
  go_wp2_with fail
  have NA3 : Hid (NA (w1.alloc (.cells #[.int .i64 a.op,.string ⟨a.nm.toArray⟩,.int .i64 a.n,.string ⟨a.t.toArray⟩,.slice Ax a.l.length cx] 25)) (fun b => w.heap.size < b /\ b ≠ w1.heap.size) (ndV a.op a.nm a.n a.t Ax a.l.length cx) a):=hna1.out.below (bl _)
  go_loopw [8] (fun _ wr => ChRel n v w g w.heap.size w1.heap.size L r wr) (fun _ wr => L.length - posP wr g)
  case atStart =>
   exact ⟨m2,a,q,Ax,cx,hmn,HE2.out,HN.out,NA3.out,HP.out,HC.out,HZ.out⟩
  case round =>
   clear HP HC HZ NAx HN NA3 hna1 HE2 hgl hz hmn
   obtain ⟨m3,a3,q3,A3,d3,hm3,hE3,hn3,hna3,hp3,hc3,hz3⟩:=hrel
   obtain ⟨t,r3,rfl⟩:=hp3.fin.ex
   have hle3:=hp3.len
   have hps:=hp3.pos
   have HP:=hid hp3
   have HC:=hid hc3
   have HZ:=hid hz3
   have HN:=hid hn3
   have NA3:=hid hna3
   have hgl:=hp3.lt
   have hz:=hz3.lt
   have hn1:=hn3.lt
   clear hn3 hna3 hp3 hc3 hz3
   rcases Sy.inv_if (show RunN m3 (if (inf (fx (t :: r3))).2 = v then Sy.cl (opnd v) (t :: r3).tail fun b r => .call (.loop v (nd (inf (fx (t :: r3))).1 [a3,b])) r .ret else .ret (.ok a3 (t :: r3))) r from hE3) with ⟨hf,hE4⟩ | ⟨hf,hE4⟩
   ·
    have hopb:=inf_op (fx (t :: r3))
    have CO:=hid (fun W (hW : Pt W g L (t :: r3)) => operator_yes v g L t r3 W hW hv hf)
    generalize (inf (fx (t :: r3))).1 = op at *
    obtain ⟨m4,hm4,hE4⟩:=Sy.inv_cl hE4
    rcases hE4 with ⟨q4,hE5,rfl⟩ | ⟨b4,q4,hE5,hE6⟩
    ·
     have C2:=hid (fun W (hW : Pt W g L r3) => HCN.out m4 (by omega) _ _ hE5 g L W hW)
     have hmr:=hps
     clear hE3 hE5 hf hm3 hm4 hps
     have HMR:=hid hmr
     clear hmr
     go_wp2_with fail
     refine (CO.out _ HP.out).mono ?_
     intro e w5 hp
     obtain ⟨rfl,hp,hc⟩:=hp
     replace HP:=hid hp
     replace HC:=hid (HC.out.trans hc)
     replace HN:=hid (HN.out.ch hc (by omega))
     replace NA3:=hid (NA3.out.ch hc (by simp;omega))
     replace HZ:=hid (HZ.out.ch hc (by omega))
     replace hz:=HZ.out.lt
     replace hgl:=HP.out.lt
     clear hc hp
     go_wp2_with fail
     have hn1:=HN.out.lt
     have k0:=HN.out.c0
     have k1:=HN.out.c1
     have k2:=HN.out.c2
     have k3:=HN.out.c3
     have k4:=HN.out.c4
     refine wp_region_any (by kernel_rfl) ?_
     change wpAny _ _ _ _ _ _ _ (World.drew _)
     refine wpAny_take (i:=0) (v:=?_) rfl (by kernel_rfl) (by kernel_rfl) (by kernel_rfl) (fun _ _ _ h => h) (Or.inl ⟨by rfl,?_⟩) ?_
     rotate_left
     ·
      intro w;go_simp
      first | done | with_reducible rfl
     refine wpAny_take (i:=2) (v:=?_) rfl (by kernel_rfl) (by kernel_rfl) (by kernel_rfl) (fun _ _ _ h => h) (Or.inl ⟨by rfl,?_⟩) ?_
     rotate_left
     ·
      intro w;go_simp
      first | done | with_reducible rfl
     refine wpAny_ready (rs:=[1,3]) (by kernel_rfl) (by simp) ?_
     refine AllReady.cons rfl (fun K hK => ?_) ?_
     ·
      go_simp
      refine hK _ _ ?_
      clear hK K
      refine wpAny_ready (rs:=[3]) (by kernel_rfl) (by simp) ?_
      refine AllReady.cons rfl (fun K hK => ?_) AllReady.nil
      go_simp
      refine (C2.out _ (HP.out.below ((Below.refl _ _).drew))).mono ?_
      intro e wx hp
      obtain ⟨rfl,hcx⟩:=hp
      exact ⟨rfl,rfl,HC.out.trans ((Ch.of_below ((Below.refl _ _).drew)).trans hcx)⟩
     refine AllReady.cons rfl (fun K hK => ?_) AllReady.nil
     go_simp
     refine (C2.out _ (HP.out.below ((Below.refl _ _).drew))).mono ?_
     intro e wx hp
     obtain ⟨rfl,hcx⟩:=hp
     exact ⟨rfl,rfl,HC.out.trans ((Ch.of_below ((Below.refl _ _).drew)).trans hcx)⟩
    ·
     have C2:=hid (fun W (hW : Pt W g L r3) => HCN.out m4 (by omega) _ _ hE5 g L W hW)
     obtain ⟨m5,hm5,hE6⟩:=Sy.inv_tail hE6
     have HE6:=hid hE6
     have hl5 : q4.length <= r3.length:=Sy.ev_le hE5.ev
     have hmn5 : m5 < n:=by omega
     clear hE6 hm5
     have hmr:=hps
     clear hE3 hE5 hf hm3 hm4 hps
     have HMR:=hid hmr
     clear hmr
     go_wp2_with fail
     refine (CO.out _ HP.out).mono ?_
     intro e w5 hp
     obtain ⟨rfl,hp,hc⟩:=hp
     replace HP:=hid hp
     replace HC:=hid (HC.out.trans hc)
     replace HN:=hid (HN.out.ch hc (by omega))
     replace NA3:=hid (NA3.out.ch hc (by simp;omega))
     replace HZ:=hid (HZ.out.ch hc (by omega))
     replace hz:=HZ.out.lt
     replace hgl:=HP.out.lt
     clear hc hp
     go_wp2_with fail
     have hn1:=HN.out.lt
     have k0:=HN.out.c0
     have k1:=HN.out.c1
     have k2:=HN.out.c2
     have k3:=HN.out.c3
     have k4:=HN.out.c4
     refine wp_region_any (by kernel_rfl) ?_
     change wpAny _ _ _ _ _ _ _ (World.drew _)
     refine wpAny_take (i:=0) (v:=?_) rfl (by kernel_rfl) (by kernel_rfl) (by kernel_rfl) (fun _ _ _ h => h) (Or.inl ⟨by rfl,?_⟩) ?_
     rotate_left
     ·
      intro w;go_simp
      first | done | with_reducible rfl
     refine wpAny_take (i:=2) (v:=?_) rfl (by kernel_rfl) (by kernel_rfl) (by kernel_rfl) (fun _ _ _ h => h) (Or.inl ⟨by rfl,?_⟩) ?_
     rotate_left
     ·
      intro w;go_simp
      first | done | with_reducible rfl
     refine wpAny_ready (rs:=[1,3]) (by kernel_rfl) (by simp) ?_
     refine AllReady.cons rfl (fun K hK => ?_) ?_
     ·
      go_simp
      refine hK _ _ ?_
      clear hK K
      refine wpAny_ready (rs:=[3]) (by kernel_rfl) (by simp) ?_
      refine AllReady.cons rfl (fun K hK => ?_) AllReady.nil
      go_simp
      refine (C2.out _ (HP.out.below ((Below.refl _ _).drew))).mono ?_
      intro e wx hp
      obtain ⟨Ax,cx,rfl,hna,hp,hcx⟩:=hp
      have hcw : Ch g w5 wx:=(Ch.of_below ((Below.refl _ _).drew)).trans hcx
      have NAx:=hid (hna.more (S':=fun b => w.heap.size < b /\ b ≠ w1.heap.size) (fun b hb _ => by have hb : w5.heap.size <= b:=hb;exact ⟨by omega,by omega⟩))
      have HP:=hid hp
      have HC:=hid (HC.out.trans hcw)
      have HZ:=hid (HZ.out.ch hcw (by omega))
      have HN:=hid (HN.out.ch hcw (by omega))
      have NA3:=hid (NA3.out.ch hcw (by simp;omega))
      have k0:=HN.out.c0
      have k1:=HN.out.c1
      have k2:=HN.out.c2
      have k3:=HN.out.c3
      have k4:=HN.out.c4
      have hgx:=HP.out.lt
      have hnx:=HN.out.lt
      have hzx:=HZ.out.lt
      clear hcx hp hna hcw
      unfold ndV
      refine hK _ _ ?_
      clear hK K
      refine wpAny_ready (rs:=[4]) (by kernel_rfl) (by simp) ?_
      refine AllReady.cons rfl (fun K hK => ?_) AllReady.nil
      go_simp
      refine hK _ _ ?_
      clear hK K
      refine wpAny_ready (rs:=[5]) (by kernel_rfl) (by simp) ?_
      refine AllReady.cons rfl (fun K hK => ?_) AllReady.nil
      go_simp
      refine (node_any _ _ _ _ _).mono ?_
      rintro e wy ⟨rfl,hb⟩
      have hk:=(KR.two_ NA3.out NAx.out (S':=fun b => w.heap.size < b /\ b ≠ w1.heap.size) (fun _ h _ => h) ⟨hzx,by omega⟩ 25 _ (by rfl)).below hb
      have hB : Below wx.heap.size wx wy:=(bl _).trans (hb.mono (by simp))
      have HP:=hid (HP.out.below hB)
      have HC:=hid (HC.out.trans (Ch.of_below hB))
      have HZ:=hid (HZ.out.below hB)
      have HN:=hid (HN.out.below hB)
      have NAy:=hid (na_nd (op:=op) (s:=[]) (n:=0) (t:=[]) (l:=[a3,b4]) hopb (by omega) (by simp) (by simp) (by simp) hk)
      have k0:=HN.out.c0
      have k1:=HN.out.c1
      have k2:=HN.out.c2
      have k3:=HN.out.c3
      have k4:=HN.out.c4
      have f0:=HN.out.free 0
      have f1:=HN.out.free 1
      have f2:=HN.out.free 2
      have f3:=HN.out.free 3
      have f4:=HN.out.free 4
      clear hk hb hB
      unfold ndV
      refine hK _ _ ?_
      clear hK K
      refine wpAny_ready (rs:=[6]) (by kernel_rfl) (by simp) ?_
      refine AllReady.cons rfl (fun K hK => ?_) AllReady.nil
      go_simp
      refine hK _ _ ?_
      clear hK K
      refine wpAny_done (by kernel_rfl) ?_ _
      have GN:=hid (HN.out.st5 (op':=op) (s':=[]) (n':=0) (t':=[]) (A':=some ⟨wx.heap.size,0,none⟩) (m':=2) (c':=2))
      have GC:=hid (st5 wy w1.heap.size (.int .i64 op) (.string ⟨#[]⟩) (.int .i64 0) (.string ⟨#[]⟩) (.slice (some ⟨wx.heap.size,0,none⟩) 2 2))
      have hgy:=HP.out.lt
      have GP:=hid (HP.out.chk GC.out (by omega))
      have GZ:=hid (HZ.out.ch GC.out (by omega))
      have GA:=hid (NAy.out.ch GC.out (by simp))
      have GH:=hid (HC.out.new GC.out (by omega))
      have hpos:=GP.out.pos
      go_wp2_with fail
      refine ⟨⟨m5,_,q4,_,_,hmn5,HE6.out,GN.out,GA.out,GP.out,GH.out,GZ.out⟩,?_⟩
      rw [hpos,HMR.out]
      simp only [List.length_cons] at *
      omega
     refine AllReady.cons rfl (fun K hK => ?_) AllReady.nil
     go_simp
     refine (C2.out _ (HP.out.below ((Below.refl _ _).drew))).mono ?_
     intro e wx hp
     obtain ⟨Ax,cx,rfl,hna,hp,hcx⟩:=hp
     have hcw : Ch g w5 wx:=(Ch.of_below ((Below.refl _ _).drew)).trans hcx
     have NAx:=hid (hna.more (S':=fun b => w.heap.size < b /\ b ≠ w1.heap.size) (fun b hb _ => by have hb : w5.heap.size <= b:=hb;exact ⟨by omega,by omega⟩))
     have HP:=hid hp
     have HC:=hid (HC.out.trans hcw)
     have HZ:=hid (HZ.out.ch hcw (by omega))
     have HN:=hid (HN.out.ch hcw (by omega))
     have NA3:=hid (NA3.out.ch hcw (by simp;omega))
     have k0:=HN.out.c0
     have k1:=HN.out.c1
     have k2:=HN.out.c2
     have k3:=HN.out.c3
     have k4:=HN.out.c4
     have hgx:=HP.out.lt
     have hnx:=HN.out.lt
     have hzx:=HZ.out.lt
     clear hcx hp hna hcw
     unfold ndV
     refine hK _ _ ?_
     clear hK K
     refine wpAny_ready (rs:=[1]) (by kernel_rfl) (by simp) ?_
     refine AllReady.cons rfl (fun K hK => ?_) AllReady.nil
     go_simp
     refine hK _ _ ?_
     clear hK K
     refine wpAny_ready (rs:=[4]) (by kernel_rfl) (by simp) ?_
     refine AllReady.cons rfl (fun K hK => ?_) AllReady.nil
     go_simp
     refine hK _ _ ?_
     clear hK K
     refine wpAny_ready (rs:=[5]) (by kernel_rfl) (by simp) ?_
     refine AllReady.cons rfl (fun K hK => ?_) AllReady.nil
     go_simp
     refine (node_any _ _ _ _ _).mono ?_
     rintro e wy ⟨rfl,hb⟩
     have hk:=(KR.two_ NA3.out NAx.out (S':=fun b => w.heap.size < b /\ b ≠ w1.heap.size) (fun _ h _ => h) ⟨hzx,by omega⟩ 25 _ (by rfl)).below hb
     have hB : Below wx.heap.size wx wy:=(bl _).trans (hb.mono (by simp))
     have HP:=hid (HP.out.below hB)
     have HC:=hid (HC.out.trans (Ch.of_below hB))
     have HZ:=hid (HZ.out.below hB)
     have HN:=hid (HN.out.below hB)
     have NAy:=hid (na_nd (op:=op) (s:=[]) (n:=0) (t:=[]) (l:=[a3,b4]) hopb (by omega) (by simp) (by simp) (by simp) hk)
     have k0:=HN.out.c0
     have k1:=HN.out.c1
     have k2:=HN.out.c2
     have k3:=HN.out.c3
     have k4:=HN.out.c4
     have f0:=HN.out.free 0
     have f1:=HN.out.free 1
     have f2:=HN.out.free 2
     have f3:=HN.out.free 3
     have f4:=HN.out.free 4
     clear hk hb hB
     unfold ndV
     refine hK _ _ ?_
     clear hK K
     refine wpAny_ready (rs:=[6]) (by kernel_rfl) (by simp) ?_
     refine AllReady.cons rfl (fun K hK => ?_) AllReady.nil
     go_simp
     refine hK _ _ ?_
     clear hK K
     refine wpAny_done (by kernel_rfl) ?_ _
     have GN:=hid (HN.out.st5 (op':=op) (s':=[]) (n':=0) (t':=[]) (A':=some ⟨wx.heap.size,0,none⟩) (m':=2) (c':=2))
     have GC:=hid (st5 wy w1.heap.size (.int .i64 op) (.string ⟨#[]⟩) (.int .i64 0) (.string ⟨#[]⟩) (.slice (some ⟨wx.heap.size,0,none⟩) 2 2))
     have hgy:=HP.out.lt
     have GP:=hid (HP.out.chk GC.out (by omega))
     have GZ:=hid (HZ.out.ch GC.out (by omega))
     have GA:=hid (NAy.out.ch GC.out (by simp))
     have GH:=hid (HC.out.new GC.out (by omega))
     have hpos:=GP.out.pos
     go_wp2_with fail
     refine ⟨⟨m5,_,q4,_,_,hmn5,HE6.out,GN.out,GA.out,GP.out,GH.out,GZ.out⟩,?_⟩
     rw [hpos,HMR.out]
     simp only [List.length_cons] at *
     omega
   ·
    obtain rfl:=Sy.inv_ret hE4
    have CO:=hid (fun W (hW : Pt W g L (t :: r3)) => operator_no v g L t r3 W hW hf)
    clear hE3 hE4 hf hm3 hps
    go_wp2_with fail
    refine (CO.out _ HP.out).mono ?_
    intro e w5 hp
    obtain ⟨rfl,hp,hc⟩:=hp
    replace HP:=hid hp
    replace HC:=hid (HC.out.trans hc)
    replace HN:=hid (HN.out.ch hc (by omega))
    replace NA3:=hid (NA3.out.ch hc (by simp;omega))
    replace HZ:=hid (HZ.out.ch hc (by omega))
    replace hz:=HZ.out.lt
    replace hgl:=HP.out.lt
    clear hc hp
    have k0:=HN.out.c0
    have k1:=HN.out.c1
    have k2:=HN.out.c2
    have k3:=HN.out.c3
    have k4:=HN.out.c4
    have z0:=HZ.out.c0
    have f0:=HZ.out.free 0
    have z1:=HZ.out.c1
    have f1:=HZ.out.free 1
    have z2:=HZ.out.c2
    have f2:=HZ.out.free 2
    have z3:=HZ.out.c3
    have f3:=HZ.out.free 3
    have z4:=HZ.out.c4
    have f4:=HZ.out.free 4
    have NA4:=hid (NA3.out.more (S':=fun b => w.heap.size < b) (fun b hb _ => hb.1))
    go_wp2_with fail
    exact bodyPost_ret (v:=ndV a3.op a3.nm a3.n a3.t A3 a3.l.length d3) (by simp [results,Tryz.results60,go_sem,ndV,z0,z1,z2,z3,z4,f0,f1,f2,f3,f4]) rfl (fin_st HP.out HC.out hlt NA4.out)
end Go.Proofs.YtgeppafcemeidaaGreatDoor
namespace Go.Proofs.YtgeppafcemeidaaGreatDoor
open Go.RowKit
open Sy (N NT R Ev Run Pg fx hd body opnd inf RunN EvN nd nmd)
open Tk (T)
open Sy (Fin TB)
attribute [local go_sem ↓] Tryz.field0 Tryz.field1
theorem Tryz.en_conj (args : Array Value) (W : World) : (callFunc 61 args).run Tryz.prog W = .ok (.enter 61 args) W:=by kernel_rfl
theorem expr_c (n : Nat) (H : AllX n) (l : List T) (r : R) (hE : EvN n (.chain 1) l r) : CF 35 l r:=by
 intro g L w h
 have hlt:=h.lt
 have C:=hid (fun W (hW : Pt W g L l) => chain_any 1 61 n (by decide) Tryz.en_conj H.conj l r hE g L W hW)
 have hmf : ∀ (fn : Fn) (first cap : Array Value) (w : World),(Instr.makeFunc fn first cap).run Tryz.prog w = .ok (.func fn first cap) w:=fun _ _ _ _ => rfl
 clear hE H
 cases r with
 | bad q =>
  have HP : Hid (Pt (w.alloc zNode) g L (l)):=h.below (bl _)
  have HC : Hid (Ch g w (w.alloc zNode)):=Ch.of_below (bl _)
  have HZ : Hid (Nb (w.alloc zNode) w.heap.size 0 [] 0 [] none 0 0):=Nb.zero
  have hz:=HZ.out.lt
  have hgl:=HP.out.lt
  clear h
  go_enter Tryz.func35,Tryz.ntmps35
  go_wp2_with fail
  refine (C.out _ HP.out).mono ?_
  intro e wz hp
  obtain ⟨rfl,hc⟩:=hp
  go_wp2_with fail
  exact ⟨rfl,rfl,HC.out.trans hc⟩
 | ok a q =>
  have HP : Hid (Pt (w.alloc zNode) g L (l)):=h.below (bl _)
  have HC : Hid (Ch g w (w.alloc zNode)):=Ch.of_below (bl _)
  have HZ : Hid (Nb (w.alloc zNode) w.heap.size 0 [] 0 [] none 0 0):=Nb.zero
  have hz:=HZ.out.lt
  have hgl:=HP.out.lt
  clear h
  go_enter Tryz.func35,Tryz.ntmps35
  go_wp2_with fail
  refine ok3 (S':=fun b => w.heap.size < b) (C.out _ HP.out) HC.out HZ.out hlt (fun b hb => Nat.lt_of_lt_of_le hz hb) ?_
  clear HP HC HZ hz hgl
  intro Ax cx w1 NAx HP HC HZ hz hgl hc
  clear hc
  unfold ndV
  have z0:=HZ.out.c0
  have f0:=HZ.out.free 0
  have z1:=HZ.out.c1
  have f1:=HZ.out.free 1
  have z2:=HZ.out.c2
  have f2:=HZ.out.free 2
  have z3:=HZ.out.c3
  have f3:=HZ.out.free 3
  have z4:=HZ.out.c4
  have f4:=HZ.out.free 4
  go_wp2_with fail
  exact bodyPost_ret (v:=ndV a.op a.nm a.n a.t Ax a.l.length cx) (by simp [results,Tryz.results35,go_sem,ndV,z0,z1,z2,z3,z4,f0,f1,f2,f3,f4]) rfl (fin_st HP.out HC.out hlt NAx.out)
theorem Tryz.en_neg (args : Array Value) (W : World) : (callFunc 109 args).run Tryz.prog W = .ok (.enter 109 args) W:=by kernel_rfl
theorem conj_c (n : Nat) (H : AllX n) (l : List T) (r : R) (hE : EvN n (.chain 2) l r) : CF 61 l r:=by
 intro g L w h
 have hlt:=h.lt
 have C:=hid (fun W (hW : Pt W g L l) => chain_any 2 109 n (by decide) Tryz.en_neg H.neg l r hE g L W hW)
 have hmf : ∀ (fn : Fn) (first cap : Array Value) (w : World),(Instr.makeFunc fn first cap).run Tryz.prog w = .ok (.func fn first cap) w:=fun _ _ _ _ => rfl
 clear hE H
 cases r with
 | bad q =>
  have HP : Hid (Pt (w.alloc zNode) g L (l)):=h.below (bl _)
  have HC : Hid (Ch g w (w.alloc zNode)):=Ch.of_below (bl _)
  have HZ : Hid (Nb (w.alloc zNode) w.heap.size 0 [] 0 [] none 0 0):=Nb.zero
  have hz:=HZ.out.lt
  have hgl:=HP.out.lt
  clear h
  go_enter Tryz.func61,Tryz.ntmps61
  go_wp2_with fail
  refine (C.out _ HP.out).mono ?_
  intro e wz hp
  obtain ⟨rfl,hc⟩:=hp
  go_wp2_with fail
  exact ⟨rfl,rfl,HC.out.trans hc⟩
 | ok a q =>
  have HP : Hid (Pt (w.alloc zNode) g L (l)):=h.below (bl _)
  have HC : Hid (Ch g w (w.alloc zNode)):=Ch.of_below (bl _)
  have HZ : Hid (Nb (w.alloc zNode) w.heap.size 0 [] 0 [] none 0 0):=Nb.zero
  have hz:=HZ.out.lt
  have hgl:=HP.out.lt
  clear h
  go_enter Tryz.func61,Tryz.ntmps61
  go_wp2_with fail
  refine ok3 (S':=fun b => w.heap.size < b) (C.out _ HP.out) HC.out HZ.out hlt (fun b hb => Nat.lt_of_lt_of_le hz hb) ?_
  clear HP HC HZ hz hgl
  intro Ax cx w1 NAx HP HC HZ hz hgl hc
  clear hc
  unfold ndV
  have z0:=HZ.out.c0
  have f0:=HZ.out.free 0
  have z1:=HZ.out.c1
  have f1:=HZ.out.free 1
  have z2:=HZ.out.c2
  have f2:=HZ.out.free 2
  have z3:=HZ.out.c3
  have f3:=HZ.out.free 3
  have z4:=HZ.out.c4
  have f4:=HZ.out.free 4
  go_wp2_with fail
  exact bodyPost_ret (v:=ndV a.op a.nm a.n a.t Ax a.l.length cx) (by simp [results,Tryz.results61,go_sem,ndV,z0,z1,z2,z3,z4,f0,f1,f2,f3,f4]) rfl (fin_st HP.out HC.out hlt NAx.out)
theorem Tryz.en_prod (args : Array Value) (W : World) : (callFunc 207 args).run Tryz.prog W = .ok (.enter 207 args) W:=by kernel_rfl
theorem sum_c (n : Nat) (H : AllX n) (l : List T) (r : R) (hE : EvN n (.chain 4) l r) : CF 180 l r:=by
 intro g L w h
 have hlt:=h.lt
 have C:=hid (fun W (hW : Pt W g L l) => chain_any 4 207 n (by decide) Tryz.en_prod H.prod l r hE g L W hW)
 have hmf : ∀ (fn : Fn) (first cap : Array Value) (w : World),(Instr.makeFunc fn first cap).run Tryz.prog w = .ok (.func fn first cap) w:=fun _ _ _ _ => rfl
 clear hE H
 cases r with
 | bad q =>
  have HP : Hid (Pt (w.alloc zNode) g L (l)):=h.below (bl _)
  have HC : Hid (Ch g w (w.alloc zNode)):=Ch.of_below (bl _)
  have HZ : Hid (Nb (w.alloc zNode) w.heap.size 0 [] 0 [] none 0 0):=Nb.zero
  have hz:=HZ.out.lt
  have hgl:=HP.out.lt
  clear h
  go_enter Tryz.func180,Tryz.ntmps180
  go_wp2_with fail
  refine (C.out _ HP.out).mono ?_
  intro e wz hp
  obtain ⟨rfl,hc⟩:=hp
  go_wp2_with fail
  exact ⟨rfl,rfl,HC.out.trans hc⟩
 | ok a q =>
  have HP : Hid (Pt (w.alloc zNode) g L (l)):=h.below (bl _)
  have HC : Hid (Ch g w (w.alloc zNode)):=Ch.of_below (bl _)
  have HZ : Hid (Nb (w.alloc zNode) w.heap.size 0 [] 0 [] none 0 0):=Nb.zero
  have hz:=HZ.out.lt
  have hgl:=HP.out.lt
  clear h
  go_enter Tryz.func180,Tryz.ntmps180
  go_wp2_with fail
  refine ok3 (S':=fun b => w.heap.size < b) (C.out _ HP.out) HC.out HZ.out hlt (fun b hb => Nat.lt_of_lt_of_le hz hb) ?_
  clear HP HC HZ hz hgl
  intro Ax cx w1 NAx HP HC HZ hz hgl hc
  clear hc
  unfold ndV
  have z0:=HZ.out.c0
  have f0:=HZ.out.free 0
  have z1:=HZ.out.c1
  have f1:=HZ.out.free 1
  have z2:=HZ.out.c2
  have f2:=HZ.out.free 2
  have z3:=HZ.out.c3
  have f3:=HZ.out.free 3
  have z4:=HZ.out.c4
  have f4:=HZ.out.free 4
  go_wp2_with fail
  exact bodyPost_ret (v:=ndV a.op a.nm a.n a.t Ax a.l.length cx) (by simp [results,Tryz.results180,go_sem,ndV,z0,z1,z2,z3,z4,f0,f1,f2,f3,f4]) rfl (fin_st HP.out HC.out hlt NAx.out)
theorem Tryz.en_unary (args : Array Value) (W : World) : (callFunc 225 args).run Tryz.prog W = .ok (.enter 225 args) W:=by kernel_rfl
theorem prod_c (n : Nat) (H : AllX n) (l : List T) (r : R) (hE : EvN n (.chain 5) l r) : CF 207 l r:=by
 intro g L w h
 have hlt:=h.lt
 have C:=hid (fun W (hW : Pt W g L l) => chain_any 5 225 n (by decide) Tryz.en_unary H.unary l r hE g L W hW)
 have hmf : ∀ (fn : Fn) (first cap : Array Value) (w : World),(Instr.makeFunc fn first cap).run Tryz.prog w = .ok (.func fn first cap) w:=fun _ _ _ _ => rfl
 clear hE H
 cases r with
 | bad q =>
  have HP : Hid (Pt (w.alloc zNode) g L (l)):=h.below (bl _)
  have HC : Hid (Ch g w (w.alloc zNode)):=Ch.of_below (bl _)
  have HZ : Hid (Nb (w.alloc zNode) w.heap.size 0 [] 0 [] none 0 0):=Nb.zero
  have hz:=HZ.out.lt
  have hgl:=HP.out.lt
  clear h
  go_enter Tryz.func207,Tryz.ntmps207
  go_wp2_with fail
  refine (C.out _ HP.out).mono ?_
  intro e wz hp
  obtain ⟨rfl,hc⟩:=hp
  go_wp2_with fail
  exact ⟨rfl,rfl,HC.out.trans hc⟩
 | ok a q =>
  have HP : Hid (Pt (w.alloc zNode) g L (l)):=h.below (bl _)
  have HC : Hid (Ch g w (w.alloc zNode)):=Ch.of_below (bl _)
  have HZ : Hid (Nb (w.alloc zNode) w.heap.size 0 [] 0 [] none 0 0):=Nb.zero
  have hz:=HZ.out.lt
  have hgl:=HP.out.lt
  clear h
  go_enter Tryz.func207,Tryz.ntmps207
  go_wp2_with fail
  refine ok3 (S':=fun b => w.heap.size < b) (C.out _ HP.out) HC.out HZ.out hlt (fun b hb => Nat.lt_of_lt_of_le hz hb) ?_
  clear HP HC HZ hz hgl
  intro Ax cx w1 NAx HP HC HZ hz hgl hc
  clear hc
  unfold ndV
  have z0:=HZ.out.c0
  have f0:=HZ.out.free 0
  have z1:=HZ.out.c1
  have f1:=HZ.out.free 1
  have z2:=HZ.out.c2
  have f2:=HZ.out.free 2
  have z3:=HZ.out.c3
  have f3:=HZ.out.free 3
  have z4:=HZ.out.c4
  have f4:=HZ.out.free 4
  go_wp2_with fail
  exact bodyPost_ret (v:=ndV a.op a.nm a.n a.t Ax a.l.length cx) (by simp [results,Tryz.results207,go_sem,ndV,z0,z1,z2,z3,z4,f0,f1,f2,f3,f4]) rfl (fin_st HP.out HC.out hlt NAx.out)
end Go.Proofs.YtgeppafcemeidaaGreatDoor
namespace Go.Proofs.YtgeppafcemeidaaGreatDoor
open Go.RowKit
open Sy (N NT R Ev Run Pg fx hd body opnd inf RunN EvN nd nmd)
open Tk (T)
open Sy (Fin TB)
attribute [local go_sem ↓] Tryz.field0 Tryz.field1
theorem neg_c (n : Nat) (H : AllX n) (l : List T) (r : R) (hE : EvN n .neg l r) : CF 109 l r:=by
 intro g L w h
 have hlt:=h.lt
 obtain ⟨t,s,rfl⟩:=h.fin.ex
 rcases Sy.inv_if (show RunN n (if fx (t :: s) = [110,111,116] then Sy.cl .neg (t :: s).tail fun a r => .ret (.ok (nd 13 [a]) r) else .call .cmp (t :: s) .ret) r from hE) with ⟨h1,hE1⟩ | ⟨h1,hE1⟩
 ·
  obtain ⟨m,hm,hF⟩:=Sy.inv_cl hE1
  rcases hF with ⟨q,hF,rfl⟩ | ⟨a,q,hF,hE2⟩
  all_goals have C:=hid (fun W (hW : Pt W g L s) => H.neg m (by omega) _ _ hF g L W hW)
  all_goals clear hE hE1 hF hm H
  ·
   have HP : Hid (Pt (w.alloc zNode) g L (t :: s)):=h.below (bl _)
   have HC : Hid (Ch g w (w.alloc zNode)):=Ch.of_below (bl _)
   have HZ : Hid (Nb (w.alloc zNode) w.heap.size 0 [] 0 [] none 0 0):=Nb.zero
   have hz:=HZ.out.lt
   have hgl:=HP.out.lt
   clear h
   go_enter Tryz.func109,Tryz.ntmps109
   go_wp2_with fail
   refine mv3 (skip_yes g L t s ⟨#[110,111,116]⟩ _ HP.out h1 (by decide)) HC.out HZ.out hlt ?_
   clear HP HC HZ hz hgl
   intro w1 HP HC HZ hz hgl hc
   clear hc
   go_wp2_with fail
   refine (C.out _ HP.out).mono ?_
   intro e wz hp
   obtain ⟨rfl,hc⟩:=hp
   go_wp2_with fail
   exact ⟨rfl,rfl,HC.out.trans hc⟩
  ·
   obtain rfl:=Sy.inv_ret hE2
   clear hE2
   have HP : Hid (Pt (w.alloc zNode) g L (t :: s)):=h.below (bl _)
   have HC : Hid (Ch g w (w.alloc zNode)):=Ch.of_below (bl _)
   have HZ : Hid (Nb (w.alloc zNode) w.heap.size 0 [] 0 [] none 0 0):=Nb.zero
   have hz:=HZ.out.lt
   have hgl:=HP.out.lt
   clear h
   go_enter Tryz.func109,Tryz.ntmps109
   go_wp2_with fail
   refine mv3 (skip_yes g L t s ⟨#[110,111,116]⟩ _ HP.out h1 (by decide)) HC.out HZ.out hlt ?_
   clear HP HC HZ hz hgl
   intro w1 HP HC HZ hz hgl hc
   clear hc
   go_wp2_with fail
   refine ok3 (S':=fun b => w.heap.size < b) (C.out _ HP.out) HC.out HZ.out hlt (fun b hb => Nat.lt_of_lt_of_le hz hb) ?_
   clear HP HC HZ hz hgl
   intro Ax cx w2 NAx HP HC HZ hz hgl hc
   clear hc
   unfold ndV
   go_wp2_with fail
   refine (node_any 13 _ _ _ _).mono ?_
   rintro e w3 ⟨rfl,hb⟩
   have hk:=(KR.one_ NAx.out (S':=fun b => w.heap.size < b) (fun _ h _ => h) (hz) 25).below hb
   have hB : Below w2.heap.size w2 w3:=(bl _).trans (hb.mono (by simp))
   replace NAx:=hid (NAx.out.below hB)
   have hx:=gw3 HP.out HC.out HZ.out hB
   clear HP HC HZ hz hgl hB
   obtain ⟨HP,HC,HZ,hz,hgl⟩:=hx
   have NAY:=hid (na_nd (op:=13) (s:=[]) (n:=0) (t:=[]) (l:=[a]) (by first | omega | (constructor <;> omega) | assumption) (by omega) (by first | assumption | simp | omega) (by first | assumption | simp | omega) (by simp) hk)
   clear hk hb
   unfold ndV
   have z0:=HZ.out.c0
   have f0:=HZ.out.free 0
   have z1:=HZ.out.c1
   have f1:=HZ.out.free 1
   have z2:=HZ.out.c2
   have f2:=HZ.out.free 2
   have z3:=HZ.out.c3
   have f3:=HZ.out.free 3
   have z4:=HZ.out.c4
   have f4:=HZ.out.free 4
   go_wp2_with fail
   exact bodyPost_ret (v:=ndV 13 [] 0 [] (some ⟨w2.heap.size,0,none⟩) 1 1) (by simp [results,Tryz.results109,go_sem,ndV,z0,z1,z2,z3,z4,f0,f1,f2,f3,f4]) rfl (fin_st HP.out HC.out hlt NAY.out)
 ·
  obtain ⟨m,hm,hF⟩:=Sy.inv_tail hE1
  have C:=hid (fun W (hW : Pt W g L (t :: s)) => H.cmp m (by omega) _ _ hF g L W hW)
  clear hE hE1 hF hm H
  cases r with
  | bad q =>
   have HP : Hid (Pt (w.alloc zNode) g L (t :: s)):=h.below (bl _)
   have HC : Hid (Ch g w (w.alloc zNode)):=Ch.of_below (bl _)
   have HZ : Hid (Nb (w.alloc zNode) w.heap.size 0 [] 0 [] none 0 0):=Nb.zero
   have hz:=HZ.out.lt
   have hgl:=HP.out.lt
   clear h
   go_enter Tryz.func109,Tryz.ntmps109
   go_wp2_with fail
   refine mv3 (skip_no g L t s ⟨#[110,111,116]⟩ _ HP.out h1) HC.out HZ.out hlt ?_
   clear HP HC HZ hz hgl
   intro w1 HP HC HZ hz hgl hc
   clear hc
   go_wp2_with fail
   refine (C.out _ HP.out).mono ?_
   intro e wz hp
   obtain ⟨rfl,hc⟩:=hp
   go_wp2_with fail
   exact ⟨rfl,rfl,HC.out.trans hc⟩
  | ok a q =>
   have HP : Hid (Pt (w.alloc zNode) g L (t :: s)):=h.below (bl _)
   have HC : Hid (Ch g w (w.alloc zNode)):=Ch.of_below (bl _)
   have HZ : Hid (Nb (w.alloc zNode) w.heap.size 0 [] 0 [] none 0 0):=Nb.zero
   have hz:=HZ.out.lt
   have hgl:=HP.out.lt
   clear h
   go_enter Tryz.func109,Tryz.ntmps109
   go_wp2_with fail
   refine mv3 (skip_no g L t s ⟨#[110,111,116]⟩ _ HP.out h1) HC.out HZ.out hlt ?_
   clear HP HC HZ hz hgl
   intro w1 HP HC HZ hz hgl hc
   clear hc
   go_wp2_with fail
   refine ok3 (S':=fun b => w.heap.size < b) (C.out _ HP.out) HC.out HZ.out hlt (fun b hb => Nat.lt_of_lt_of_le hz hb) ?_
   clear HP HC HZ hz hgl
   intro Ax cx w2 NAx HP HC HZ hz hgl hc
   clear hc
   unfold ndV
   have z0:=HZ.out.c0
   have f0:=HZ.out.free 0
   have z1:=HZ.out.c1
   have f1:=HZ.out.free 1
   have z2:=HZ.out.c2
   have f2:=HZ.out.free 2
   have z3:=HZ.out.c3
   have f3:=HZ.out.free 3
   have z4:=HZ.out.c4
   have f4:=HZ.out.free 4
   go_wp2_with fail
   exact bodyPost_ret (v:=ndV a.op a.nm a.n a.t Ax a.l.length cx) (by simp [results,Tryz.results109,go_sem,ndV,z0,z1,z2,z3,z4,f0,f1,f2,f3,f4]) rfl (fin_st HP.out HC.out hlt NAx.out)
theorem unary_c (n : Nat) (H : AllX n) (l : List T) (r : R) (hE : EvN n .unary l r) : CF 225 l r:=by
 intro g L w h
 have hlt:=h.lt
 obtain ⟨t,s,rfl⟩:=h.fin.ex
 rcases Sy.inv_if (show RunN n (if fx (t :: s) = [45] then Sy.cl .unary (t :: s).tail fun a r => .ret (.ok (nd 14 [a]) r) else if fx (t :: s) = [97,119,97,105,116] then Sy.cl .unary (t :: s).tail fun a r => .ret (.ok (nd 12 [a]) r) else if fx (t :: s) = [103,111] then .call (.fcall 11) (t :: s).tail .ret else .call .post (t :: s) .ret) r from hE) with ⟨h1,hE1⟩ | ⟨h1,hE1⟩
 ·
  obtain ⟨m,hm,hF⟩:=Sy.inv_cl hE1
  rcases hF with ⟨q,hF,rfl⟩ | ⟨a,q,hF,hE2⟩
  all_goals have C:=hid (fun W (hW : Pt W g L s) => H.unary m (by omega) _ _ hF g L W hW)
  all_goals clear hE hE1 hF hm H
  ·
   have HP : Hid (Pt (w.alloc zNode) g L (t :: s)):=h.below (bl _)
   have HC : Hid (Ch g w (w.alloc zNode)):=Ch.of_below (bl _)
   have HZ : Hid (Nb (w.alloc zNode) w.heap.size 0 [] 0 [] none 0 0):=Nb.zero
   have hz:=HZ.out.lt
   have hgl:=HP.out.lt
   clear h
   go_enter Tryz.func225,Tryz.ntmps225
   go_wp2_with fail
   refine mv3 (skip_yes g L t s ⟨#[45]⟩ _ HP.out h1 (by decide)) HC.out HZ.out hlt ?_
   clear HP HC HZ hz hgl
   intro w1 HP HC HZ hz hgl hc
   clear hc
   go_wp2_with fail
   refine (C.out _ HP.out).mono ?_
   intro e wz hp
   obtain ⟨rfl,hc⟩:=hp
   go_wp2_with fail
   exact ⟨rfl,rfl,HC.out.trans hc⟩
  ·
   obtain rfl:=Sy.inv_ret hE2
   clear hE2
   have HP : Hid (Pt (w.alloc zNode) g L (t :: s)):=h.below (bl _)
   have HC : Hid (Ch g w (w.alloc zNode)):=Ch.of_below (bl _)
   have HZ : Hid (Nb (w.alloc zNode) w.heap.size 0 [] 0 [] none 0 0):=Nb.zero
   have hz:=HZ.out.lt
   have hgl:=HP.out.lt
   clear h
   go_enter Tryz.func225,Tryz.ntmps225
   go_wp2_with fail
   refine mv3 (skip_yes g L t s ⟨#[45]⟩ _ HP.out h1 (by decide)) HC.out HZ.out hlt ?_
   clear HP HC HZ hz hgl
   intro w1 HP HC HZ hz hgl hc
   clear hc
   go_wp2_with fail
   refine ok3 (S':=fun b => w.heap.size < b) (C.out _ HP.out) HC.out HZ.out hlt (fun b hb => Nat.lt_of_lt_of_le hz hb) ?_
   clear HP HC HZ hz hgl
   intro Ax cx w2 NAx HP HC HZ hz hgl hc
   clear hc
   unfold ndV
   go_wp2_with fail
   refine (node_any 14 _ _ _ _).mono ?_
   rintro e w3 ⟨rfl,hb⟩
   have hk:=(KR.one_ NAx.out (S':=fun b => w.heap.size < b) (fun _ h _ => h) (hz) 25).below hb
   have hB : Below w2.heap.size w2 w3:=(bl _).trans (hb.mono (by simp))
   replace NAx:=hid (NAx.out.below hB)
   have hx:=gw3 HP.out HC.out HZ.out hB
   clear HP HC HZ hz hgl hB
   obtain ⟨HP,HC,HZ,hz,hgl⟩:=hx
   have NAY:=hid (na_nd (op:=14) (s:=[]) (n:=0) (t:=[]) (l:=[a]) (by first | omega | (constructor <;> omega) | assumption) (by omega) (by first | assumption | simp | omega) (by first | assumption | simp | omega) (by simp) hk)
   clear hk hb
   unfold ndV
   have z0:=HZ.out.c0
   have f0:=HZ.out.free 0
   have z1:=HZ.out.c1
   have f1:=HZ.out.free 1
   have z2:=HZ.out.c2
   have f2:=HZ.out.free 2
   have z3:=HZ.out.c3
   have f3:=HZ.out.free 3
   have z4:=HZ.out.c4
   have f4:=HZ.out.free 4
   go_wp2_with fail
   exact bodyPost_ret (v:=ndV 14 [] 0 [] (some ⟨w2.heap.size,0,none⟩) 1 1) (by simp [results,Tryz.results225,go_sem,ndV,z0,z1,z2,z3,z4,f0,f1,f2,f3,f4]) rfl (fin_st HP.out HC.out hlt NAY.out)
 rcases Sy.inv_if hE1 with ⟨h2,hE1⟩ | ⟨h2,hE1⟩
 ·
  obtain ⟨m,hm,hF⟩:=Sy.inv_cl hE1
  rcases hF with ⟨q,hF,rfl⟩ | ⟨a,q,hF,hE2⟩
  all_goals have C:=hid (fun W (hW : Pt W g L s) => H.unary m (by omega) _ _ hF g L W hW)
  all_goals clear hE hE1 hF hm H
  ·
   have HP : Hid (Pt (w.alloc zNode) g L (t :: s)):=h.below (bl _)
   have HC : Hid (Ch g w (w.alloc zNode)):=Ch.of_below (bl _)
   have HZ : Hid (Nb (w.alloc zNode) w.heap.size 0 [] 0 [] none 0 0):=Nb.zero
   have hz:=HZ.out.lt
   have hgl:=HP.out.lt
   clear h
   go_enter Tryz.func225,Tryz.ntmps225
   go_wp2_with fail
   refine mv3 (skip_no g L t s ⟨#[45]⟩ _ HP.out h1) HC.out HZ.out hlt ?_
   clear HP HC HZ hz hgl
   intro w1 HP HC HZ hz hgl hc
   clear hc
   go_wp2_with fail
   refine mv3 (skip_yes g L t s ⟨#[97,119,97,105,116]⟩ _ HP.out h2 (by decide)) HC.out HZ.out hlt ?_
   clear HP HC HZ hz hgl
   intro w2 HP HC HZ hz hgl hc
   clear hc
   go_wp2_with fail
   refine (C.out _ HP.out).mono ?_
   intro e wz hp
   obtain ⟨rfl,hc⟩:=hp
   go_wp2_with fail
   exact ⟨rfl,rfl,HC.out.trans hc⟩
  ·
   obtain rfl:=Sy.inv_ret hE2
   clear hE2
   have HP : Hid (Pt (w.alloc zNode) g L (t :: s)):=h.below (bl _)
   have HC : Hid (Ch g w (w.alloc zNode)):=Ch.of_below (bl _)
   have HZ : Hid (Nb (w.alloc zNode) w.heap.size 0 [] 0 [] none 0 0):=Nb.zero
   have hz:=HZ.out.lt
   have hgl:=HP.out.lt
   clear h
   go_enter Tryz.func225,Tryz.ntmps225
   go_wp2_with fail
   refine mv3 (skip_no g L t s ⟨#[45]⟩ _ HP.out h1) HC.out HZ.out hlt ?_
   clear HP HC HZ hz hgl
   intro w1 HP HC HZ hz hgl hc
   clear hc
   go_wp2_with fail
   refine mv3 (skip_yes g L t s ⟨#[97,119,97,105,116]⟩ _ HP.out h2 (by decide)) HC.out HZ.out hlt ?_
   clear HP HC HZ hz hgl
   intro w2 HP HC HZ hz hgl hc
   clear hc
   go_wp2_with fail
   refine ok3 (S':=fun b => w.heap.size < b) (C.out _ HP.out) HC.out HZ.out hlt (fun b hb => Nat.lt_of_lt_of_le hz hb) ?_
   clear HP HC HZ hz hgl
   intro Ax cx w3 NAx HP HC HZ hz hgl hc
   clear hc
   unfold ndV
   go_wp2_with fail
   refine (node_any 12 _ _ _ _).mono ?_
   rintro e w4 ⟨rfl,hb⟩
   have hk:=(KR.one_ NAx.out (S':=fun b => w.heap.size < b) (fun _ h _ => h) (hz) 25).below hb
   have hB : Below w3.heap.size w3 w4:=(bl _).trans (hb.mono (by simp))
   replace NAx:=hid (NAx.out.below hB)
   have hx:=gw3 HP.out HC.out HZ.out hB
   clear HP HC HZ hz hgl hB
   obtain ⟨HP,HC,HZ,hz,hgl⟩:=hx
   have NAY:=hid (na_nd (op:=12) (s:=[]) (n:=0) (t:=[]) (l:=[a]) (by first | omega | (constructor <;> omega) | assumption) (by omega) (by first | assumption | simp | omega) (by first | assumption | simp | omega) (by simp) hk)
   clear hk hb
   unfold ndV
   have z0:=HZ.out.c0
   have f0:=HZ.out.free 0
   have z1:=HZ.out.c1
   have f1:=HZ.out.free 1
   have z2:=HZ.out.c2
   have f2:=HZ.out.free 2
   have z3:=HZ.out.c3
   have f3:=HZ.out.free 3
   have z4:=HZ.out.c4
   have f4:=HZ.out.free 4
   go_wp2_with fail
   exact bodyPost_ret (v:=ndV 12 [] 0 [] (some ⟨w3.heap.size,0,none⟩) 1 1) (by simp [results,Tryz.results225,go_sem,ndV,z0,z1,z2,z3,z4,f0,f1,f2,f3,f4]) rfl (fin_st HP.out HC.out hlt NAY.out)
 rcases Sy.inv_if hE1 with ⟨h3,hE1⟩ | ⟨h3,hE1⟩
 ·
  obtain ⟨m,hm,hF⟩:=Sy.inv_tail hE1
  have C:=hid (fun W (hW : Pt W g L s) => H.fcall 11 (by decide) (by decide) m (by omega) _ _ hF g L W hW)
  clear hE hE1 hF hm H
  cases r with
  | bad q =>
   have HP : Hid (Pt (w.alloc zNode) g L (t :: s)):=h.below (bl _)
   have HC : Hid (Ch g w (w.alloc zNode)):=Ch.of_below (bl _)
   have HZ : Hid (Nb (w.alloc zNode) w.heap.size 0 [] 0 [] none 0 0):=Nb.zero
   have hz:=HZ.out.lt
   have hgl:=HP.out.lt
   clear h
   go_enter Tryz.func225,Tryz.ntmps225
   go_wp2_with fail
   refine mv3 (skip_no g L t s ⟨#[45]⟩ _ HP.out h1) HC.out HZ.out hlt ?_
   clear HP HC HZ hz hgl
   intro w1 HP HC HZ hz hgl hc
   clear hc
   go_wp2_with fail
   refine mv3 (skip_no g L t s ⟨#[97,119,97,105,116]⟩ _ HP.out h2) HC.out HZ.out hlt ?_
   clear HP HC HZ hz hgl
   intro w2 HP HC HZ hz hgl hc
   clear hc
   go_wp2_with fail
   refine mv3 (skip_yes g L t s ⟨#[103,111]⟩ _ HP.out h3 (by decide)) HC.out HZ.out hlt ?_
   clear HP HC HZ hz hgl
   intro w3 HP HC HZ hz hgl hc
   clear hc
   go_wp2_with fail
   refine (C.out _ HP.out).mono ?_
   intro e wz hp
   obtain ⟨rfl,hc⟩:=hp
   go_wp2_with fail
   exact ⟨rfl,rfl,HC.out.trans hc⟩
  | ok a q =>
   have HP : Hid (Pt (w.alloc zNode) g L (t :: s)):=h.below (bl _)
   have HC : Hid (Ch g w (w.alloc zNode)):=Ch.of_below (bl _)
   have HZ : Hid (Nb (w.alloc zNode) w.heap.size 0 [] 0 [] none 0 0):=Nb.zero
   have hz:=HZ.out.lt
   have hgl:=HP.out.lt
   clear h
   go_enter Tryz.func225,Tryz.ntmps225
   go_wp2_with fail
   refine mv3 (skip_no g L t s ⟨#[45]⟩ _ HP.out h1) HC.out HZ.out hlt ?_
   clear HP HC HZ hz hgl
   intro w1 HP HC HZ hz hgl hc
   clear hc
   go_wp2_with fail
   refine mv3 (skip_no g L t s ⟨#[97,119,97,105,116]⟩ _ HP.out h2) HC.out HZ.out hlt ?_
   clear HP HC HZ hz hgl
   intro w2 HP HC HZ hz hgl hc
   clear hc
   go_wp2_with fail
   refine mv3 (skip_yes g L t s ⟨#[103,111]⟩ _ HP.out h3 (by decide)) HC.out HZ.out hlt ?_
   clear HP HC HZ hz hgl
   intro w3 HP HC HZ hz hgl hc
   clear hc
   go_wp2_with fail
   refine ok3 (S':=fun b => w.heap.size < b) (C.out _ HP.out) HC.out HZ.out hlt (fun b hb => Nat.lt_of_lt_of_le hz hb) ?_
   clear HP HC HZ hz hgl
   intro Ax cx w4 NAx HP HC HZ hz hgl hc
   clear hc
   unfold ndV
   have z0:=HZ.out.c0
   have f0:=HZ.out.free 0
   have z1:=HZ.out.c1
   have f1:=HZ.out.free 1
   have z2:=HZ.out.c2
   have f2:=HZ.out.free 2
   have z3:=HZ.out.c3
   have f3:=HZ.out.free 3
   have z4:=HZ.out.c4
   have f4:=HZ.out.free 4
   go_wp2_with fail
   exact bodyPost_ret (v:=ndV a.op a.nm a.n a.t Ax a.l.length cx) (by simp [results,Tryz.results225,go_sem,ndV,z0,z1,z2,z3,z4,f0,f1,f2,f3,f4]) rfl (fin_st HP.out HC.out hlt NAx.out)
 ·
  obtain ⟨m,hm,hF⟩:=Sy.inv_tail hE1
  have C:=hid (fun W (hW : Pt W g L (t :: s)) => H.post m (by omega) _ _ hF g L W hW)
  clear hE hE1 hF hm H
  cases r with
  | bad q =>
   have HP : Hid (Pt (w.alloc zNode) g L (t :: s)):=h.below (bl _)
   have HC : Hid (Ch g w (w.alloc zNode)):=Ch.of_below (bl _)
   have HZ : Hid (Nb (w.alloc zNode) w.heap.size 0 [] 0 [] none 0 0):=Nb.zero
   have hz:=HZ.out.lt
   have hgl:=HP.out.lt
   clear h
   go_enter Tryz.func225,Tryz.ntmps225
   go_wp2_with fail
   refine mv3 (skip_no g L t s ⟨#[45]⟩ _ HP.out h1) HC.out HZ.out hlt ?_
   clear HP HC HZ hz hgl
   intro w1 HP HC HZ hz hgl hc
   clear hc
   go_wp2_with fail
   refine mv3 (skip_no g L t s ⟨#[97,119,97,105,116]⟩ _ HP.out h2) HC.out HZ.out hlt ?_
   clear HP HC HZ hz hgl
   intro w2 HP HC HZ hz hgl hc
   clear hc
   go_wp2_with fail
   refine mv3 (skip_no g L t s ⟨#[103,111]⟩ _ HP.out h3) HC.out HZ.out hlt ?_
   clear HP HC HZ hz hgl
   intro w3 HP HC HZ hz hgl hc
   clear hc
   go_wp2_with fail
   refine (C.out _ HP.out).mono ?_
   intro e wz hp
   obtain ⟨rfl,hc⟩:=hp
   go_wp2_with fail
   exact ⟨rfl,rfl,HC.out.trans hc⟩
  | ok a q =>
   have HP : Hid (Pt (w.alloc zNode) g L (t :: s)):=h.below (bl _)
   have HC : Hid (Ch g w (w.alloc zNode)):=Ch.of_below (bl _)
   have HZ : Hid (Nb (w.alloc zNode) w.heap.size 0 [] 0 [] none 0 0):=Nb.zero
   have hz:=HZ.out.lt
   have hgl:=HP.out.lt
   clear h
   go_enter Tryz.func225,Tryz.ntmps225
   go_wp2_with fail
   refine mv3 (skip_no g L t s ⟨#[45]⟩ _ HP.out h1) HC.out HZ.out hlt ?_
   clear HP HC HZ hz hgl
   intro w1 HP HC HZ hz hgl hc
   clear hc
   go_wp2_with fail
   refine mv3 (skip_no g L t s ⟨#[97,119,97,105,116]⟩ _ HP.out h2) HC.out HZ.out hlt ?_
   clear HP HC HZ hz hgl
   intro w2 HP HC HZ hz hgl hc
   clear hc
   go_wp2_with fail
   refine mv3 (skip_no g L t s ⟨#[103,111]⟩ _ HP.out h3) HC.out HZ.out hlt ?_
   clear HP HC HZ hz hgl
   intro w3 HP HC HZ hz hgl hc
   clear hc
   go_wp2_with fail
   refine ok3 (S':=fun b => w.heap.size < b) (C.out _ HP.out) HC.out HZ.out hlt (fun b hb => Nat.lt_of_lt_of_le hz hb) ?_
   clear HP HC HZ hz hgl
   intro Ax cx w4 NAx HP HC HZ hz hgl hc
   clear hc
   unfold ndV
   have z0:=HZ.out.c0
   have f0:=HZ.out.free 0
   have z1:=HZ.out.c1
   have f1:=HZ.out.free 1
   have z2:=HZ.out.c2
   have f2:=HZ.out.free 2
   have z3:=HZ.out.c3
   have f3:=HZ.out.free 3
   have z4:=HZ.out.c4
   have f4:=HZ.out.free 4
   go_wp2_with fail
   exact bodyPost_ret (v:=ndV a.op a.nm a.n a.t Ax a.l.length cx) (by simp [results,Tryz.results225,go_sem,ndV,z0,z1,z2,z3,z4,f0,f1,f2,f3,f4]) rfl (fin_st HP.out HC.out hlt NAx.out)
theorem cmp_c (n : Nat) (H : AllX n) (l : List T) (r : R) (hE : EvN n .cmp l r) : CF 155 l r:=by
 intro g L w h
 have hlt:=h.lt
 obtain ⟨t,s,rfl⟩:=h.fin.ex
 obtain ⟨m,hm,hF⟩:=Sy.inv_cl (show RunN n (Sy.cl (.chain 4) (t :: s) fun a r => if (inf (fx r)).2 = 3 then Sy.cl (.chain 4) r.tail fun b q => .ret (.ok (nd (inf (fx r)).1 [a,b]) q) else .ret (.ok a r)) r from hE)
 rcases hF with ⟨q,hF,rfl⟩ | ⟨a,q,hF,hE2⟩
 all_goals have C:=hid (fun W (hW : Pt W g L (t :: s)) => H.sum m (by omega) _ _ hF g L W hW)
 ·
  clear hE hF hm H
  have HP : Hid (Pt (w.alloc zNode) g L (t :: s)):=h.below (bl _)
  have HC : Hid (Ch g w (w.alloc zNode)):=Ch.of_below (bl _)
  have HZ : Hid (Nb (w.alloc zNode) w.heap.size 0 [] 0 [] none 0 0):=Nb.zero
  have hz:=HZ.out.lt
  have hgl:=HP.out.lt
  clear h
  go_enter Tryz.func155,Tryz.ntmps155
  go_wp2_with fail
  refine (C.out _ HP.out).mono ?_
  intro e wz hp
  obtain ⟨rfl,hc⟩:=hp
  go_wp2_with fail
  exact ⟨rfl,rfl,HC.out.trans hc⟩
 ·
  have HH:=hid H
  have hmn : m < n:=by omega
  clear hE hF hm H
  have HP : Hid (Pt (w.alloc zNode) g L (t :: s)):=h.below (bl _)
  have HC : Hid (Ch g w (w.alloc zNode)):=Ch.of_below (bl _)
  have HZ : Hid (Nb (w.alloc zNode) w.heap.size 0 [] 0 [] none 0 0):=Nb.zero
  have hz:=HZ.out.lt
  have hgl:=HP.out.lt
  clear h
  go_enter Tryz.func155,Tryz.ntmps155
  go_wp2_with fail
  refine ok3 (S':=fun b => w.heap.size < b) (C.out _ HP.out) HC.out HZ.out hlt (fun b hb => Nat.lt_of_lt_of_le hz hb) ?_
  clear HP HC HZ hz hgl
  intro Ax cx w1 NAx HP HC HZ hz hgl hc
  clear hc
  unfold ndV
  have hgHN : g < w1.heap.size:=hgl
  have hzHN : w.heap.size < w1.heap.size:=hz
  have hbx : Below w1.heap.size w1 (w1.alloc (.cells #[.int .i64 a.op,.string ⟨a.nm.toArray⟩,.int .i64 a.n,.string ⟨a.t.toArray⟩,.slice Ax a.l.length cx] 25)):=bl _
  have HN : Hid (Nb (w1.alloc (.cells #[.int .i64 a.op,.string ⟨a.nm.toArray⟩,.int .i64 a.n,.string ⟨a.t.toArray⟩,.slice Ax a.l.length cx] 25)) w1.heap.size a.op a.nm a.n a.t Ax a.l.length cx):=Nb.new
  replace NAx:=hid (NAx.out.below hbx)
  have hx:=gw3 HP.out HC.out HZ.out hbx
  clear HP HC HZ hz hgl hbx
  obtain ⟨HP,HC,HZ,hz,hgl⟩:=hx
  go_wp2_with fail
  obtain ⟨u,z,rfl⟩:=HP.out.fin.ex
  rcases Sy.inv_if hE2 with ⟨h2,hE2⟩ | ⟨h2,hE2⟩
  ·
   have hopb:=inf_op (fx (u :: z))
   have CO:=hid (fun W (hW : Pt W g L (u :: z)) => operator_yes 3 g L u z W hW (by decide) h2)
   generalize (inf (fx (u :: z))).1 = op at *
   obtain ⟨m2,hm2,hE2⟩:=Sy.inv_cl hE2
   refine mv3 (CO.out _ HP.out) HC.out HZ.out hlt ?_
   clear HP HC HZ hz hgl
   intro w2 HP HC HZ hz hgl hc
   replace NAx:=hid (NAx.out.ch hc (by simp;omega))
   replace HN:=hid (HN.out.ch hc (by omega))
   clear hc
   go_wp2_with fail
   have hn1:=HN.out.lt
   have k0:=HN.out.c0
   have k1:=HN.out.c1
   have k2:=HN.out.c2
   have k3:=HN.out.c3
   have k4:=HN.out.c4
   rcases hE2 with ⟨q2,hE3,rfl⟩ | ⟨b,q2,hE3,hE4⟩
   ·
    have C2:=hid (fun W (hW : Pt W g L z) => HH.out.sum m2 (by omega) _ _ hE3 g L W hW)
    clear hE3 h2 hm2
    refine wp_region_any (by kernel_rfl) ?_
    change wpAny _ _ _ _ _ _ _ (World.drew _)
    refine wpAny_take (i:=0) (v:=?_) rfl (by kernel_rfl) (by kernel_rfl) (by kernel_rfl) (fun _ _ _ h => h) (Or.inl ⟨by rfl,?_⟩) ?_
    rotate_left
    ·
     intro w;go_simp
     first | done | with_reducible rfl
    try simp only [Act.put,y1,y2,y3,y4,y5,y6]
    refine wpAny_take (i:=2) (v:=?_) rfl (by kernel_rfl) (by kernel_rfl) (by kernel_rfl) (fun _ _ _ h => h) (Or.inl ⟨by rfl,?_⟩) ?_
    rotate_left
    ·
     intro w;go_simp
     first | done | with_reducible rfl
    try simp only [Act.put,y1,y2,y3,y4,y5,y6]
    refine wpAny_ready (rs:=[1,3]) (by kernel_rfl) (by simp) ?_
    refine AllReady.cons rfl (fun K hK => ?_) ?_
    ·
     go_simp
     refine hK _ _ ?_
     clear hK K
     try simp only [Act.put,y1,y2,y3,y4,y5,y6]
     refine wpAny_ready (rs:=[3]) (by kernel_rfl) (by simp) ?_
     refine AllReady.cons rfl (fun K hK => ?_) AllReady.nil
     go_simp
     refine (C2.out _ (HP.out.below ((Below.refl _ _).drew))).mono ?_
     intro e wx hp
     obtain ⟨rfl,hcx⟩:=hp
     exact ⟨rfl,rfl,HC.out.trans ((Ch.of_below ((Below.refl _ _).drew)).trans hcx)⟩
    refine AllReady.cons rfl (fun K hK => ?_) AllReady.nil
    go_simp
    refine (C2.out _ (HP.out.below ((Below.refl _ _).drew))).mono ?_
    intro e wx hp
    obtain ⟨rfl,hcx⟩:=hp
    exact ⟨rfl,rfl,HC.out.trans ((Ch.of_below ((Below.refl _ _).drew)).trans hcx)⟩
   ·
    obtain rfl:=Sy.inv_ret hE4
    have C2:=hid (fun W (hW : Pt W g L z) => HH.out.sum m2 (by omega) _ _ hE3 g L W hW)
    clear hE3 hE4 h2 hm2
    refine wp_region_any (by kernel_rfl) ?_
    change wpAny _ _ _ _ _ _ _ (World.drew _)
    refine wpAny_take (i:=0) (v:=?_) rfl (by kernel_rfl) (by kernel_rfl) (by kernel_rfl) (fun _ _ _ h => h) (Or.inl ⟨by rfl,?_⟩) ?_
    rotate_left
    ·
     intro w;go_simp
     first | done | with_reducible rfl
    try simp only [Act.put,y1,y2,y3,y4,y5,y6]
    refine wpAny_take (i:=2) (v:=?_) rfl (by kernel_rfl) (by kernel_rfl) (by kernel_rfl) (fun _ _ _ h => h) (Or.inl ⟨by rfl,?_⟩) ?_
    rotate_left
    ·
     intro w;go_simp
     first | done | with_reducible rfl
    try simp only [Act.put,y1,y2,y3,y4,y5,y6]
    refine wpAny_ready (rs:=[1,3]) (by kernel_rfl) (by simp) ?_
    refine AllReady.cons rfl (fun K hK => ?_) ?_
    ·
     go_simp
     refine hK _ _ ?_
     clear hK K
     try simp only [Act.put,y1,y2,y3,y4,y5,y6]
     refine wpAny_ready (rs:=[3]) (by kernel_rfl) (by simp) ?_
     refine AllReady.cons rfl (fun K hK => ?_) AllReady.nil
     go_simp
     refine (C2.out _ (HP.out.below ((Below.refl _ _).drew))).mono ?_
     intro e wx hp
     obtain ⟨Ay,cy,rfl,hna,hp,hcx⟩:=hp
     have hcw : Ch g w2 wx:=(Ch.of_below ((Below.refl _ _).drew)).trans hcx
     have NAy:=hid (hna.more (S':=fun b => w.heap.size < b) (fun b hb _ => by have hb : w2.heap.size <= b:=hb;show w.heap.size < b;omega))
     have HP:=hid hp
     have HC:=hid (HC.out.trans hcw)
     have HZ:=hid (HZ.out.ch hcw (by omega))
     have HN:=hid (HN.out.ch hcw (by omega))
     have NAx:=hid (NAx.out.ch hcw (by simp;omega))
     have k0:=HN.out.c0
     have k1:=HN.out.c1
     have k2:=HN.out.c2
     have k3:=HN.out.c3
     have k4:=HN.out.c4
     have hzx:=HZ.out.lt
     clear hcx hp hna hcw
     unfold ndV
     refine hK _ _ ?_
     clear hK K
     try simp only [Act.put,y1,y2,y3,y4,y5,y6]
     refine wpAny_ready (rs:=[4]) (by kernel_rfl) (by simp) ?_
     refine AllReady.cons rfl (fun K hK => ?_) AllReady.nil
     go_simp
     refine hK _ _ ?_
     clear hK K
     try simp only [Act.put,y1,y2,y3,y4,y5,y6]
     refine wpAny_ready (rs:=[5]) (by kernel_rfl) (by simp) ?_
     refine AllReady.cons rfl (fun K hK => ?_) AllReady.nil
     go_simp
     refine (node_any _ _ _ _ _).mono ?_
     rintro e wy ⟨rfl,hb⟩
     have hk:=(KR.two_ NAx.out NAy.out (S':=fun b => w.heap.size < b) (fun _ h _ => h) hzx 25 _ (by rfl)).below hb
     have hB : Below wx.heap.size wx wy:=(bl _).trans (hb.mono (by simp))
     have HP:=hid (HP.out.below hB)
     have HC:=hid (HC.out.trans (Ch.of_below hB))
     have HZ:=hid (HZ.out.below hB)
     have NAz:=hid (na_nd (op:=op) (s:=[]) (n:=0) (t:=[]) (l:=[a,b]) (by first | assumption | omega) (by omega) (by first | assumption | simp) (by simp) (by simp) hk)
     clear hk hb hB
     have z0:=HZ.out.c0
     have z1:=HZ.out.c1
     have z2:=HZ.out.c2
     have z3:=HZ.out.c3
     have z4:=HZ.out.c4
     have f0:=HZ.out.free 0
     have f1:=HZ.out.free 1
     have f2:=HZ.out.free 2
     have f3:=HZ.out.free 3
     have f4:=HZ.out.free 4
     unfold ndV
     refine hK _ _ ?_
     clear hK K
     try simp only [Act.put,y1,y2,y3,y4,y5,y6]
     refine wpAny_ready (rs:=[6]) (by kernel_rfl) (by simp) ?_
     refine AllReady.cons rfl (fun K hK => ?_) AllReady.nil
     go_simp
     refine hK _ _ ?_
     clear hK K
     try simp only [Act.put,y1,y2,y3,y4,y5,y6]
     refine wpAny_done (by kernel_rfl) ?_ _
     go_wp2_with fail
     exact bodyPost_ret (v:=ndV op [] 0 [] (some ⟨wx.heap.size,0,none⟩) 2 2) (by simp [results,Tryz.results155,go_sem,ndV,z0,z1,z2,z3,z4,f0,f1,f2,f3,f4]) rfl (fin_st HP.out HC.out hlt NAz.out)
    refine AllReady.cons rfl (fun K hK => ?_) AllReady.nil
    go_simp
    refine (C2.out _ (HP.out.below ((Below.refl _ _).drew))).mono ?_
    intro e wx hp
    obtain ⟨Ay,cy,rfl,hna,hp,hcx⟩:=hp
    have hcw : Ch g w2 wx:=(Ch.of_below ((Below.refl _ _).drew)).trans hcx
    have NAy:=hid (hna.more (S':=fun b => w.heap.size < b) (fun b hb _ => by have hb : w2.heap.size <= b:=hb;show w.heap.size < b;omega))
    have HP:=hid hp
    have HC:=hid (HC.out.trans hcw)
    have HZ:=hid (HZ.out.ch hcw (by omega))
    have HN:=hid (HN.out.ch hcw (by omega))
    have NAx:=hid (NAx.out.ch hcw (by simp;omega))
    have k0:=HN.out.c0
    have k1:=HN.out.c1
    have k2:=HN.out.c2
    have k3:=HN.out.c3
    have k4:=HN.out.c4
    have hzx:=HZ.out.lt
    clear hcx hp hna hcw
    unfold ndV
    refine hK _ _ ?_
    clear hK K
    try simp only [Act.put,y1,y2,y3,y4,y5,y6]
    refine wpAny_ready (rs:=[1]) (by kernel_rfl) (by simp) ?_
    refine AllReady.cons rfl (fun K hK => ?_) AllReady.nil
    go_simp
    refine hK _ _ ?_
    clear hK K
    try simp only [Act.put,y1,y2,y3,y4,y5,y6]
    refine wpAny_ready (rs:=[4]) (by kernel_rfl) (by simp) ?_
    refine AllReady.cons rfl (fun K hK => ?_) AllReady.nil
    go_simp
    refine hK _ _ ?_
    clear hK K
    try simp only [Act.put,y1,y2,y3,y4,y5,y6]
    refine wpAny_ready (rs:=[5]) (by kernel_rfl) (by simp) ?_
    refine AllReady.cons rfl (fun K hK => ?_) AllReady.nil
    go_simp
    refine (node_any _ _ _ _ _).mono ?_
    rintro e wy ⟨rfl,hb⟩
    have hk:=(KR.two_ NAx.out NAy.out (S':=fun b => w.heap.size < b) (fun _ h _ => h) hzx 25 _ (by rfl)).below hb
    have hB : Below wx.heap.size wx wy:=(bl _).trans (hb.mono (by simp))
    have HP:=hid (HP.out.below hB)
    have HC:=hid (HC.out.trans (Ch.of_below hB))
    have HZ:=hid (HZ.out.below hB)
    have NAz:=hid (na_nd (op:=op) (s:=[]) (n:=0) (t:=[]) (l:=[a,b]) (by first | assumption | omega) (by omega) (by first | assumption | simp) (by simp) (by simp) hk)
    clear hk hb hB
    have z0:=HZ.out.c0
    have z1:=HZ.out.c1
    have z2:=HZ.out.c2
    have z3:=HZ.out.c3
    have z4:=HZ.out.c4
    have f0:=HZ.out.free 0
    have f1:=HZ.out.free 1
    have f2:=HZ.out.free 2
    have f3:=HZ.out.free 3
    have f4:=HZ.out.free 4
    unfold ndV
    refine hK _ _ ?_
    clear hK K
    try simp only [Act.put,y1,y2,y3,y4,y5,y6]
    refine wpAny_ready (rs:=[6]) (by kernel_rfl) (by simp) ?_
    refine AllReady.cons rfl (fun K hK => ?_) AllReady.nil
    go_simp
    refine hK _ _ ?_
    clear hK K
    try simp only [Act.put,y1,y2,y3,y4,y5,y6]
    refine wpAny_done (by kernel_rfl) ?_ _
    go_wp2_with fail
    exact bodyPost_ret (v:=ndV op [] 0 [] (some ⟨wx.heap.size,0,none⟩) 2 2) (by simp [results,Tryz.results155,go_sem,ndV,z0,z1,z2,z3,z4,f0,f1,f2,f3,f4]) rfl (fin_st HP.out HC.out hlt NAz.out)
  ·
   obtain rfl:=Sy.inv_ret hE2
   have CO:=hid (fun W (hW : Pt W g L (u :: z)) => operator_no 3 g L u z W hW h2)
   clear hE2 h2
   refine mv3 (CO.out _ HP.out) HC.out HZ.out hlt ?_
   clear HP HC HZ hz hgl
   intro w6 HP HC HZ hz hgl hc
   replace HN:=hid (HN.out.ch hc (by omega))
   replace NAx:=hid (NAx.out.ch hc (by simp;omega))
   clear hc
   have k0:=HN.out.c0
   have k1:=HN.out.c1
   have k2:=HN.out.c2
   have k3:=HN.out.c3
   have k4:=HN.out.c4
   have z0:=HZ.out.c0
   have f0:=HZ.out.free 0
   have z1:=HZ.out.c1
   have f1:=HZ.out.free 1
   have z2:=HZ.out.c2
   have f2:=HZ.out.free 2
   have z3:=HZ.out.c3
   have f3:=HZ.out.free 3
   have z4:=HZ.out.c4
   have f4:=HZ.out.free 4
   go_wp2_with fail
   exact bodyPost_ret (v:=ndV a.op a.nm a.n a.t Ax a.l.length cx) (by simp [results,Tryz.results155,go_sem,ndV,z0,z1,z2,z3,z4,f0,f1,f2,f3,f4]) rfl (fin_st HP.out HC.out hlt NAx.out)
end Go.Proofs.YtgeppafcemeidaaGreatDoor
namespace Go.Proofs.YtgeppafcemeidaaGreatDoor
open Go.RowKit
open Sy (N NT R Ev Run Pg fx hd body opnd inf RunN EvN nd nmd)
open Tk (T)
open Sy (Fin TB)
attribute [local go_sem ↓] Tryz.field0 Tryz.field1
theorem Pt.peek {w : World} {g : Nat} {L s : List T} {t u : T} (h : Pt w g L (t :: u :: s)) : ∃ b o c n : Nat,n + 1 < L.length /\ L.length <= 20000 /\ ∀ W,Below w.heap.size w W ->
  (fun W => W.cell? ⟨g,0,none⟩ = some (.slice (some ⟨b,o,none⟩) L.length c) /\ W.cell? ⟨g,1,none⟩ = some (.int .i64 (n : Int)) /\ W.cell? ⟨b,o + (n + 1) * 4,none⟩ = some (.int .i64 u.k) /\ W.cell? ⟨b,o + (n + 1) * 4 + 1,none⟩ = some (.int .i64 u.at_) /\ W.cell? ⟨b,o + (n + 1) * 4 + 2,none⟩ = some (.string ⟨u.t.toArray⟩) /\ W.cell? ⟨b,o + (n + 1) * 4 + 3,none⟩ = some (.int .i64 u.n)) W:=by
 obtain ⟨b,o,c,h1,h2,h3,h4,h5,h6,h7,h8,h9⟩:=h
 have hg : L[L.length - (t :: u :: s).length + 1]? = some u:=by
  have:=congrArg (fun l => l[1]?) h4
  simpa using this
 obtain ⟨q0,q1,q2,q3⟩:=h3 _ _ hg
 have hc0 : w.cell? ⟨g,0,none⟩ = some (.slice (some ⟨b,o,none⟩) L.length c):=by have:=cellAt h1 0;simpa using this
 have hc1 : w.cell? ⟨g,1,none⟩ = some (.int .i64 ((L.length - (t :: u :: s).length : Nat) : Int)):=by have:=cellAt h1 1;simpa using this
 have hl:=(List.getElem?_eq_some_iff.1 hg).1
 refine ⟨b,o,c,L.length - (t :: u :: s).length,hl,h7,fun W hb => ?_⟩
 have k : ∀ {a : Addr} {v : Value},w.cell? a = some v -> W.cell? a = some v:=fun hc => (hb.cell (World.block_lt_of_cell? w _ hc)).trans hc
 exact ⟨k hc0,k hc1,k q0,k q1,k q2,k q3⟩
theorem assigns_any (g : Nat) (L : List T) (t : T) (s : List T) (w : World) (h : Pt w g L (t :: s)) :
  Calls Tryz.prog 202 #[.pointer (some ⟨g,0,none⟩)] w fun e w' => e = .returned (.bool (Sy.assigns (t :: s))) /\ Below w.heap.size w w':=by
 have C1:=hid (fun W (hW : Pt W g L (t :: s)) => next_any g L t s W hW)
 have HP:=hid h
 have hgl:=h.lt
 unfold tkV at C1
 by_cases h1 : t.k = 1
 ·
  have hf:=h.fin.tail (by omega)
  obtain ⟨u,z,rfl⟩:=hf.ex
  obtain ⟨b,o,c,n,hn1,hn2,hS⟩:=h.peek
  have hb : (t.k == 1) = true:=by simpa using h1
  have hd : Hid (Sy.assigns (t :: u :: z) = (fx (u :: z) == [61])):=by
   show _ = _
   simp only [Sy.assigns,Sy.hd,List.headD_cons,h1,decide_true,Bool.true_and,List.tail_cons]
   by_cases hx : fx (u :: z) = [61] <;> simp [hx]
  have C2:=hid (fun W => fixedText_any u z W)
  generalize fx (u :: z) = x at *
  generalize Sy.assigns (t :: u :: z) = y at *
  have HF:=hid hS
  have HB : Hid (Below w.heap.size w w.drew):=(Below.refl _ _).drew
  have HS:=hid (hS _ HB.out)
  have hi0 : (0 : Int) <= (n : Int) + 1:=by omega
  have hi1 : (n : Int) + 1 < (L.length : Int):=by omega
  have hi2 : ((n : Int) + 1).toNat = n + 1:=by omega
  have hi3 : IntKind.i64.wrap ((n : Int) + 1) = (n : Int) + 1:=wrap_small _ (by omega) (by omega)
  clear h h1 hf hS hn1 hn2
  go_enter Tryz.func202,Tryz.ntmps202
  go_wp2_with fail
  go_region_held3 (fun W => W.cell? ⟨g,0,none⟩ = some (.slice (some ⟨b,o,none⟩) L.length c) /\ W.cell? ⟨g,1,none⟩ = some (.int .i64 (n : Int)) /\ W.cell? ⟨b,o + (n + 1) * 4,none⟩ = some (.int .i64 u.k) /\ W.cell? ⟨b,o + (n + 1) * 4 + 1,none⟩ = some (.int .i64 u.at_) /\ W.cell? ⟨b,o + (n + 1) * 4 + 2,none⟩ = some (.string ⟨u.t.toArray⟩) /\ W.cell? ⟨b,o + (n + 1) * 4 + 3,none⟩ = some (.int .i64 u.n)) (exact HS.out)
   (first
    | (go_at_call 46;(with_reducible refine (C1.out _ (HP.out.below HB.out)).mono ?_);rintro e wx ⟨rfl,hbx⟩;have HB:=hid (HB.out.trans (hbx.mono HB.out.size));have HS:=hid (HF.out _ HB.out);clear hbx)
    | (go_at_call 170;(refine (C2.out _).mono ?_);rintro e wy ⟨rfl,hby⟩;have HB:=hid (HB.out.trans (hby.mono HB.out.size));have HS:=hid (HF.out _ HB.out);clear hby))
  go_wp2_with fail
  go_ret
  rw [hd.out]
  exact ⟨rfl,HB.out⟩
 ·
  have hb : (t.k == 1) = false:=by simpa using h1
  have hd : Sy.assigns (t :: s) = false:=by simp [Sy.assigns,Sy.hd,h1]
  rw [hd]
  have HB : Hid (Below w.heap.size w w.drew):=(Below.refl _ _).drew
  clear h h1 hd
  go_enter Tryz.func202,Tryz.ntmps202
  go_wp2_with fail
  refine wp_region_any (by kernel_rfl) ?_
  change wpAny _ _ _ _ _ _ _ (World.drew _)
  refine wpAny_take (i:=0) (v:=?_) rfl (by kernel_rfl) (by kernel_rfl) (by kernel_rfl) (fun _ _ _ h => h) (Or.inl ⟨by rfl,?_⟩) ?_
  rotate_left
  ·
   intro w;go_simp
   first | done | with_reducible rfl
  try simp only [Act.put,y1,y2,y3,y4,y5,y6]
  refine wpAny_ready (rs:=[1]) (by kernel_rfl) (by simp) ?_
  refine AllReady.cons rfl (fun K hK => ?_) AllReady.nil
  go_simp
  refine (C1.out _ (HP.out.below HB.out)).mono ?_
  rintro e wx ⟨rfl,hbx⟩
  have HB:=hid (HB.out.trans (hbx.mono HB.out.size))
  clear hbx
  refine hK _ _ ?_
  clear hK K
  try simp only [Act.put,y1,y2,y3,y4,y5,y6]
  refine wpAny_take (i:=2) (v:=?_) rfl (by kernel_rfl) (by kernel_rfl) (by kernel_rfl) (fun _ _ _ h => h) (Or.inl ⟨by rfl,?_⟩) ?_
  rotate_left
  ·
   intro w;go_simp
   first | done | with_reducible rfl
  try simp only [Act.put,y1,y2,y3,y4,y5,y6]
  refine wpAny_take (i:=3) (v:=?_) rfl (by kernel_rfl) (by kernel_rfl) (by kernel_rfl) (fun _ _ _ h => h) (Or.inl ⟨by rfl,?_⟩) ?_
  rotate_left
  ·
   intro w;go_simp
   first | done | with_reducible rfl
  try simp only [Act.put,y1,y2,y3,y4,y5,y6]
  refine wpAny_take (i:=4) (v:=?_) rfl (by kernel_rfl) (by kernel_rfl) (by kernel_rfl) (fun _ _ _ h => h) (Or.inl ⟨by rfl,?_⟩) ?_
  rotate_left
  ·
   intro w;go_simp
   first | done | with_reducible rfl
  try simp only [Act.put,y1,y2,y3,y4,y5,y6]
  refine wpAny_take (i:=5) (v:=undef) rfl (by kernel_rfl) (by kernel_rfl) (by kernel_rfl) (fun _ _ _ h => h) (Or.inr ⟨by kernel_rfl,rfl⟩) ?_
  try simp only [Act.put,y1,y2,y3,y4,y5,y6]
  refine wpAny_take (i:=6) (v:=undef) rfl (by kernel_rfl) (by kernel_rfl) (by kernel_rfl) (fun _ _ _ h => h) (Or.inr ⟨by kernel_rfl,rfl⟩) ?_
  try simp only [Act.put,y1,y2,y3,y4,y5,y6]
  refine wpAny_take (i:=7) (v:=undef) rfl (by kernel_rfl) (by kernel_rfl) (by kernel_rfl) (fun _ _ _ h => h) (Or.inr ⟨by kernel_rfl,rfl⟩) ?_
  try simp only [Act.put,y1,y2,y3,y4,y5,y6]
  refine wpAny_take (i:=8) (v:=undef) rfl (by kernel_rfl) (by kernel_rfl) (by kernel_rfl) (fun _ _ _ h => h) (Or.inr ⟨by kernel_rfl,rfl⟩) ?_
  try simp only [Act.put,y1,y2,y3,y4,y5,y6]
  refine wpAny_take (i:=9) (v:=undef) rfl (by kernel_rfl) (by kernel_rfl) (by kernel_rfl) (fun _ _ _ h => h) (Or.inr ⟨by kernel_rfl,rfl⟩) ?_
  try simp only [Act.put,y1,y2,y3,y4,y5,y6]
  refine wpAny_take (i:=10) (v:=undef) rfl (by kernel_rfl) (by kernel_rfl) (by kernel_rfl) (fun _ _ _ h => h) (Or.inr ⟨by kernel_rfl,rfl⟩) ?_
  try simp only [Act.put,y1,y2,y3,y4,y5,y6]
  refine wpAny_take (i:=11) (v:=undef) rfl (by kernel_rfl) (by kernel_rfl) (by kernel_rfl) (fun _ _ _ h => h) (Or.inr ⟨by kernel_rfl,rfl⟩) ?_
  try simp only [Act.put,y1,y2,y3,y4,y5,y6]
  refine wpAny_take (i:=12) (v:=undef) rfl (by kernel_rfl) (by kernel_rfl) (by kernel_rfl) (fun _ _ _ h => h) (Or.inr ⟨by kernel_rfl,rfl⟩) ?_
  try simp only [Act.put,y1,y2,y3,y4,y5,y6]
  refine wpAny_take (i:=13) (v:=undef) rfl (by kernel_rfl) (by kernel_rfl) (by kernel_rfl) (fun _ _ _ h => h) (Or.inr ⟨by kernel_rfl,rfl⟩) ?_
  try simp only [Act.put,y1,y2,y3,y4,y5,y6]
  refine wpAny_take (i:=14) (v:=undef) rfl (by kernel_rfl) (by kernel_rfl) (by kernel_rfl) (fun _ _ _ h => h) (Or.inr ⟨by kernel_rfl,rfl⟩) ?_
  try simp only [Act.put,y1,y2,y3,y4,y5,y6]
  refine wpAny_take (i:=15) (v:=undef) rfl (by kernel_rfl) (by kernel_rfl) (by kernel_rfl) (fun _ _ _ h => h) (Or.inr ⟨by kernel_rfl,rfl⟩) ?_
  try simp only [Act.put,y1,y2,y3,y4,y5,y6]
  refine wpAny_take (i:=16) (v:=undef) rfl (by kernel_rfl) (by kernel_rfl) (by kernel_rfl) (fun _ _ _ h => h) (Or.inr ⟨by kernel_rfl,rfl⟩) ?_
  try simp only [Act.put,y1,y2,y3,y4,y5,y6]
  refine wpAny_take (i:=17) (v:=undef) rfl (by kernel_rfl) (by kernel_rfl) (by kernel_rfl) (fun _ _ _ h => h) (Or.inr ⟨by kernel_rfl,rfl⟩) ?_
  try simp only [Act.put,y1,y2,y3,y4,y5,y6]
  refine wpAny_take (i:=18) (v:=?_) rfl (by kernel_rfl) (by kernel_rfl) (by kernel_rfl) (fun _ _ _ h => h) (Or.inl ⟨by rfl,?_⟩) ?_
  rotate_left
  ·
   intro w;go_simp
   first | done | with_reducible rfl
  try simp only [Act.put,y1,y2,y3,y4,y5,y6]
  refine wpAny_take (i:=19) (v:=?_) rfl (by kernel_rfl) (by kernel_rfl) (by kernel_rfl) (fun _ _ _ h => h) (Or.inl ⟨by rfl,?_⟩) ?_
  rotate_left
  ·
   intro w;go_simp
   first | done | with_reducible rfl
  try simp only [Act.put,y1,y2,y3,y4,y5,y6]
  refine wpAny_done (by kernel_rfl) ?_ _
  go_wp2_with fail
  go_ret
  exact ⟨by first | rfl | (simp;done) | kernel_rfl,HB.out⟩
end Go.Proofs.YtgeppafcemeidaaGreatDoor
namespace Go.Proofs.YtgeppafcemeidaaGreatDoor
open Go.RowKit
open Sy (N NT R Ev Run Pg fx hd body opnd inf RunN EvN nd nmd)
open Tk (T)
open Sy (Fin TB)
attribute [local go_sem ↓] Tryz.field0 Tryz.field1
def PostK (g : Nat) (L : List T) (w : World) (r : R) (e : Ending) (w' : World) : Prop:=match r with
 | .ok a l => ∃ A c,e = .returned (.slice A a.l.length c) /\ OwnK w' w.heap.size (.slice A a.l.length c) a.l /\ Pt w' g L l /\ Ch g w w' /\ a.l.length <= 30000
 | .bad l => Fell g l w e w'
def elemsBRel (n : Nat) (last : List UInt8) (e : Nat) (w : World) (g : Nat) (L : List T) (r : R) (v : Value) (wr : World) : Prop:=∃ m acc q A c,m < n /\ v = .slice A acc.length c /\ EvN m (.elemL last e acc) q r /\ OwnK wr w.heap.size (.slice A acc.length c) acc /\ Pt wr g L q /\ Ch g w wr /\ acc.length + q.length <= L.length + 1
theorem elemsB_any (K : Nat) (hen : ∀ (args : Array Value) (W : World),(callFunc K args).run Tryz.prog W = .ok (.enter K args) W) (n e : Nat) (g : Nat) (hK : ∀ m,m < n -> ∀ l r,EvN m (Sy.elm e) l r -> ∀ L W,Pt W g L l -> Calls Tryz.prog K #[.pointer (some ⟨g,0,none⟩)] W (Post g L W r)) (last : ByteArray) (hl0 : last.data.toList ≠ []) (hl1 : last.data.toList ≠ [44]) (l : List T) (r : R) (hE : EvN n (.elems last.data.toList e) l r) (L : List T) (w : World) (h : Pt w g L l) :
  Calls Tryz.prog 137 #[.pointer (some ⟨g,0,none⟩),.string last,.func (.func K) #[.pointer (some ⟨g,0,none⟩)] #[]] w (PostK g L w r):=by
 obtain ⟨t,s,rfl⟩:=h.fin.ex
 have hlt:=h.lt
 have HK:=hid hK
 have hlen:=h.len
 have HL0:=hid hl0
 clear hK hl0
 rcases Sy.inv_if (show RunN n (if fx (t :: s) = last.data.toList then .ret (.ok (nd 0 []) (t :: s).tail) else Sy.cl (Sy.elm e) (t :: s) fun a r => .call (.elemL last.data.toList e [a]) r .ret) r from hE) with ⟨h1,hE1⟩ | ⟨h1,hE1⟩
 ·
  obtain rfl:=Sy.inv_ret hE1
  clear hE hE1
  have HP : Hid (Pt w g L (t :: s)):=h
  have HC : Hid (Ch g w w):=Ch.refl
  have hgl:=HP.out.lt
  clear h
  go_enter Tryz.func137,Tryz.ntmps137
  go_wp2_with fail
  refine mv2 (skip_yes g L t s last _ HP.out h1 HL0.out) HC.out hlt ?_
  clear HP HC hgl
  intro w1 HP HC hgl hc
  clear hc
  go_wp2_with fail
  go_ret
  exact ⟨none,0,rfl,OwnK.nil_,HP.out,HC.out,by simp [nd,Sy.N.l]⟩
 ·
  obtain ⟨m,hm,hF⟩:=Sy.inv_cl hE1
  rcases hF with ⟨q,hF,rfl⟩ | ⟨a,q,hF,hE2⟩
  all_goals have C:=hid (HK.out m (by omega) _ _ hF)
  ·
   clear hE hE1 hF hm
   have HP : Hid (Pt w g L (t :: s)):=h
   have HC : Hid (Ch g w w):=Ch.refl
   have hgl:=HP.out.lt
   clear h
   go_enter Tryz.func137,Tryz.ntmps137
   go_wp2_with fail
   refine mv2 (skip_no g L t s last _ HP.out h1) HC.out hlt ?_
   clear HP HC hgl
   intro w1 HP HC hgl hc
   clear hc
   go_wp2_with fail
   refine (C.out _ _ HP.out).mono ?_
   intro e wz hp
   obtain ⟨rfl,hc⟩:=hp
   go_wp2_with fail
   exact ⟨rfl,rfl,HC.out.trans hc⟩
  ·
   have hq : q.length <= s.length + 1:=Sy.ev_le hF.ev
   obtain ⟨m2,hm2,hE2⟩:=Sy.inv_tail hE2
   have HE2:=hid hE2
   have hmn : m2 < n:=by omega
   clear hE hE1 hF hm hE2 hm2
   have HP : Hid (Pt w g L (t :: s)):=h
   have HC : Hid (Ch g w w):=Ch.refl
   have hgl:=HP.out.lt
   clear h
   go_enter Tryz.func137,Tryz.ntmps137
   go_wp2_with fail
   refine mv2 (skip_no g L t s last _ HP.out h1) HC.out hlt ?_
   clear HP HC hgl
   intro w1 HP HC hgl hc
   clear hc
   go_wp2_with fail
   have hwz:=HC.out.size
   refine ok2 (S':=fun b => w.heap.size <= b) (C.out _ _ HP.out) HC.out hlt (fun b hb => Nat.le_trans hwz hb) ?_
   clear HP HC hgl
   intro Ax cx w2 NAx HP HC hgl hc
   clear hc
   unfold ndV
   have hwx:=HC.out.size
   have HO : Hid (OwnK (w2.alloc (.cells #[.int .i64 a.op,.string ⟨a.nm.toArray⟩,.int .i64 a.n,.string ⟨a.t.toArray⟩,.slice Ax a.l.length cx] 25)) w.heap.size (.slice (some ⟨w2.heap.size,0,none⟩) 1 1) [a]):=OwnK.lit (l:=[a]) (NsC.one (NAx.out.cells rfl)) (fun b hb _ => hb) hwx (by simp)
   have HP2 : Hid (Pt (w2.alloc (.cells #[.int .i64 a.op,.string ⟨a.nm.toArray⟩,.int .i64 a.n,.string ⟨a.t.toArray⟩,.slice Ax a.l.length cx] 25)) g L q):=HP.out.below (bl _)
   have HC2 : Hid (Ch g w (w2.alloc (.cells #[.int .i64 a.op,.string ⟨a.nm.toArray⟩,.int .i64 a.n,.string ⟨a.t.toArray⟩,.slice Ax a.l.length cx] 25))):=HC.out.trans (Ch.of_below (bl _))
   have hlen2:=hlen.1
   go_wp2_with fail
   go_loopw [7] (fun v wr => elemsBRel n last.data.toList e w g L r v wr) (fun _ wr => L.length - posP wr g)
   case atStart =>
    exact ⟨m2,[a],q,some ⟨w2.heap.size,0,none⟩,1,hmn,rfl,HE2.out,HO.out,HP2.out,HC2.out,by simp only [List.length_cons,List.length_nil] at *;omega⟩
   case round =>
    clear HP HC HP2 HC2 HO NAx HE2 hgl hmn hwx hwz hlen2
    obtain ⟨m3,acc,q3,A3,d3,hm3,rfl,hE3,ho3,hp3,hc3,hb3⟩:=hrel
    obtain ⟨u,z,rfl⟩:=hp3.fin.ex
    have hps:=hid hp3.pos
    have HP:=hid hp3
    have HC:=hid hc3
    have HO:=hid ho3
    have hgl:=hp3.lt
    have hlen3:=hp3.len
    clear hp3 hc3 ho3
    rcases Sy.inv_if (show RunN m3 (if fx (u :: z) = [44] then Sy.cl (Sy.elm e) (u :: z).tail fun a r => .call (.elemL last.data.toList e (acc ++ [a])) r .ret else Sy.tk last.data.toList (u :: z) fun r => .ret (.ok (nd 0 acc) r)) r from hE3) with ⟨h4,hE4⟩ | ⟨h4,hE4⟩
    ·
     obtain ⟨m4,hm4,hF4⟩:=Sy.inv_cl hE4
     rcases hF4 with ⟨q4,hF4,rfl⟩ | ⟨b4,q4,hF4,hE5⟩
     all_goals have C2:=hid (HK.out m4 (by omega) _ _ hF4)
     ·
      clear hE3 hE4 hF4 hm4 hm3
      go_wp2_with fail
      refine mv2 (skip_yes g L u z ⟨#[44]⟩ _ HP.out h4 (by decide)) HC.out hlt ?_
      clear HP HC hgl
      intro w5 HP HC hgl hc
      replace HO:=hid (HO.out.ch hc (by omega))
      clear hc
      go_wp2_with fail
      refine (C2.out _ _ HP.out).mono ?_
      intro e wz hp
      obtain ⟨rfl,hc⟩:=hp
      go_wp2_with fail
      exact ⟨rfl,rfl,HC.out.trans hc⟩
     ·
      have hq4 : q4.length <= z.length:=Sy.ev_le hF4.ev
      obtain ⟨m5,hm5,hE5⟩:=Sy.inv_tail hE5
      have HE5:=hid hE5
      have hmn5 : m5 < n:=by omega
      clear hE3 hE4 hF4 hm4 hm3 hE5 hm5
      go_wp2_with fail
      refine mv2 (skip_yes g L u z ⟨#[44]⟩ _ HP.out h4 (by decide)) HC.out hlt ?_
      clear HP HC hgl
      intro w5 HP HC hgl hc
      replace HO:=hid (HO.out.ch hc (by omega))
      clear hc
      go_wp2_with fail
      have hwc:=HC.out.size
      have HLT:=hid HO.out.lt
      refine ok2 (S':=fun b => w5.heap.size <= b) (C2.out _ _ HP.out) HC.out hlt (fun b hb => hb) ?_
      clear HP HC hgl
      intro Ay cy w6 NAy HP HC hgl hc
      have HCK:=hid hc
      replace HO:=hid (HO.out.ch hc (by omega))
      clear hc
      unfold ndV
      have hwy:=HC.out.size
      have hcw : w5.heap.size <= w6.heap.size:=by have:=HCK.out.size;exact this
      have hbz : acc.length <= 1000000:=by simp only [List.length_cons] at *;omega
      go_wp2_with (at_builtin;refine wpList_appNode rfl (.tmp 16) (.tmp 19) rfl w.heap.size (.slice A3 acc.length d3) acc b4 #[.int .i64 b4.op,.string ⟨b4.nm.toArray⟩,.int .i64 b4.n,.string ⟨b4.t.toArray⟩,.slice Ay b4.l.length cy] rfl HO.out NAy.out (fun b hb _ => ⟨Nat.le_trans hwc hb,fun e => by have:=(HLT.out b e).2;have hb : w5.heap.size <= b:=hb;omega⟩) rfl hbz hwy ?_;intro A6 c6 w6 ho6 hb6)
      have GP:=hid (HP.out.belowb hb6 hlt)
      have GH:=hid (HC.out.belowb hb6 (Nat.le_refl _))
      have hpos:=GP.out.pos
      refine ⟨⟨m5,acc ++ [b4],q4,A6,c6,hmn5,by simp,HE5.out,by simpa using ho6,GP.out,GH.out,by simp only [List.length_cons,List.length_append,List.length_nil] at *;omega⟩,?_⟩
      rw [hpos,hps.out]
      simp only [List.length_cons] at *
      omega
    ·
     rcases Sy.inv_tk hE4 with ⟨h5,hE5⟩ | ⟨h5,rfl⟩
     ·
      obtain rfl:=Sy.inv_ret hE5
      clear hE3 hE4 hE5 hm3
      go_wp2_with fail
      refine mv2 (skip_no g L u z ⟨#[44]⟩ _ HP.out h4) HC.out hlt ?_
      clear HP HC hgl
      intro w5 HP HC hgl hc
      replace HO:=hid (HO.out.ch hc (by omega))
      clear hc
      go_wp2_with fail
      refine mv2 (take_yes g L u z last _ HP.out h5 HL0.out) HC.out hlt ?_
      clear HP HC hgl
      intro w6 HP HC hgl hc
      replace HO:=hid (HO.out.ch hc (by omega))
      clear hc
      go_wp2_with fail
      go_ret
      exact ⟨A3,d3,rfl,HO.out,HP.out,HC.out,by show acc.length <= 30000;simp only [List.length_cons] at *;omega⟩
     ·
      clear hE3 hE4 hm3
      go_wp2_with fail
      refine mv2 (skip_no g L u z ⟨#[44]⟩ _ HP.out h4) HC.out hlt ?_
      clear HP HC hgl
      intro w5 HP HC hgl hc
      replace HO:=hid (HO.out.ch hc (by omega))
      clear hc
      go_wp2_with fail
      refine (take_no g L u z last _ HP.out h5).mono ?_
      intro e wz hp
      obtain ⟨rfl,hc⟩:=hp
      go_wp2_with fail
      exact ⟨rfl,rfl,HC.out.trans hc⟩
def elemsPRel (n : Nat) (last : List UInt8) (e : Nat) (w : World) (g : Nat) (J : Nat) (L : List T) (r : R) (v : Value) (wr : World) : Prop:=∃ m acc q A c,m < n /\ v = .slice A acc.length c /\ EvN m (.elemL last e acc) q r /\ OwnK wr w.heap.size (.slice A acc.length c) acc /\ Pt wr g L q /\ Ch g w wr /\ acc.length + q.length <= L.length + 1 /\ wr.cell? ⟨J,0,none⟩ = some (.pointer (some ⟨g,0,none⟩))
theorem elemsP_any (J : Nat) (n e : Nat) (g : Nat) (hK : ∀ m,m < n -> ∀ l r,EvN m (Sy.elm e) l r -> ∀ L W,Pt W g L l -> W.cell? ⟨J,0,none⟩ = some (.pointer (some ⟨g,0,none⟩)) -> Calls Tryz.prog 138 #[.pointer (some ⟨J,0,none⟩)] W (Post g L W r)) (last : ByteArray) (hl0 : last.data.toList ≠ []) (hl1 : last.data.toList ≠ [44]) (l : List T) (r : R) (hE : EvN n (.elems last.data.toList e) l r) (L : List T) (w : World) (h : Pt w g L l) (hJ : w.cell? ⟨J,0,none⟩ = some (.pointer (some ⟨g,0,none⟩))) (hJg : J ≠ g) :
  Calls Tryz.prog 137 #[.pointer (some ⟨g,0,none⟩),.string last,.func (.func 138) #[] #[.pointer (some ⟨J,0,none⟩)]] w (PostK g L w r):=by
 obtain ⟨t,s,rfl⟩:=h.fin.ex
 have hlt:=h.lt
 have HK:=hid hK
 have hlen:=h.len
 have hJlt : J < w.heap.size:=World.block_lt_of_cell? w _ hJ
 have HJ:=hid hJ
 clear hJ
 have HL0:=hid hl0
 clear hK hl0
 rcases Sy.inv_if (show RunN n (if fx (t :: s) = last.data.toList then .ret (.ok (nd 0 []) (t :: s).tail) else Sy.cl (Sy.elm e) (t :: s) fun a r => .call (.elemL last.data.toList e [a]) r .ret) r from hE) with ⟨h1,hE1⟩ | ⟨h1,hE1⟩
 ·
  obtain rfl:=Sy.inv_ret hE1
  clear hE hE1
  have HP : Hid (Pt w g L (t :: s)):=h
  have HC : Hid (Ch g w w):=Ch.refl
  have hgl:=HP.out.lt
  clear h
  go_enter Tryz.func137,Tryz.ntmps137
  go_wp2_with fail
  refine mv2 (skip_yes g L t s last _ HP.out h1 HL0.out) HC.out hlt ?_
  clear HP HC hgl
  intro w1 HP HC hgl hc
  replace HJ:=hid ((hc : Ch g _ _).cell HJ.out hJg)
  clear hc
  go_wp2_with fail
  go_ret
  exact ⟨none,0,rfl,OwnK.nil_,HP.out,HC.out,by simp [nd,Sy.N.l]⟩
 ·
  obtain ⟨m,hm,hF⟩:=Sy.inv_cl hE1
  rcases hF with ⟨q,hF,rfl⟩ | ⟨a,q,hF,hE2⟩
  all_goals have C:=hid (HK.out m (by omega) _ _ hF)
  ·
   clear hE hE1 hF hm
   have HP : Hid (Pt w g L (t :: s)):=h
   have HC : Hid (Ch g w w):=Ch.refl
   have hgl:=HP.out.lt
   clear h
   go_enter Tryz.func137,Tryz.ntmps137
   go_wp2_with fail
   refine mv2 (skip_no g L t s last _ HP.out h1) HC.out hlt ?_
   clear HP HC hgl
   intro w1 HP HC hgl hc
   replace HJ:=hid ((hc : Ch g _ _).cell HJ.out hJg)
   clear hc
   go_wp2_with fail
   refine (C.out _ _ HP.out HJ.out).mono ?_
   intro e wz hp
   obtain ⟨rfl,hc⟩:=hp
   go_wp2_with fail
   exact ⟨rfl,rfl,HC.out.trans hc⟩
  ·
   have hq : q.length <= s.length + 1:=Sy.ev_le hF.ev
   obtain ⟨m2,hm2,hE2⟩:=Sy.inv_tail hE2
   have HE2:=hid hE2
   have hmn : m2 < n:=by omega
   clear hE hE1 hF hm hE2 hm2
   have HP : Hid (Pt w g L (t :: s)):=h
   have HC : Hid (Ch g w w):=Ch.refl
   have hgl:=HP.out.lt
   clear h
   go_enter Tryz.func137,Tryz.ntmps137
   go_wp2_with fail
   refine mv2 (skip_no g L t s last _ HP.out h1) HC.out hlt ?_
   clear HP HC hgl
   intro w1 HP HC hgl hc
   replace HJ:=hid ((hc : Ch g _ _).cell HJ.out hJg)
   clear hc
   go_wp2_with fail
   have hwz:=HC.out.size
   refine ok2 (S':=fun b => w.heap.size <= b) (C.out _ _ HP.out HJ.out) HC.out hlt (fun b hb => Nat.le_trans hwz hb) ?_
   clear HP HC hgl
   intro Ax cx w2 NAx HP HC hgl hc
   replace HJ:=hid ((hc : Ch g _ _).cell HJ.out hJg)
   clear hc
   unfold ndV
   have hwx:=HC.out.size
   have HO : Hid (OwnK (w2.alloc (.cells #[.int .i64 a.op,.string ⟨a.nm.toArray⟩,.int .i64 a.n,.string ⟨a.t.toArray⟩,.slice Ax a.l.length cx] 25)) w.heap.size (.slice (some ⟨w2.heap.size,0,none⟩) 1 1) [a]):=OwnK.lit (l:=[a]) (NsC.one (NAx.out.cells rfl)) (fun b hb _ => hb) hwx (by simp)
   have HP2 : Hid (Pt (w2.alloc (.cells #[.int .i64 a.op,.string ⟨a.nm.toArray⟩,.int .i64 a.n,.string ⟨a.t.toArray⟩,.slice Ax a.l.length cx] 25)) g L q):=HP.out.below (bl _)
   have HC2 : Hid (Ch g w (w2.alloc (.cells #[.int .i64 a.op,.string ⟨a.nm.toArray⟩,.int .i64 a.n,.string ⟨a.t.toArray⟩,.slice Ax a.l.length cx] 25))):=HC.out.trans (Ch.of_below (bl _))
   have HJ2 : Hid ((w2.alloc (.cells #[.int .i64 a.op,.string ⟨a.nm.toArray⟩,.int .i64 a.n,.string ⟨a.t.toArray⟩,.slice Ax a.l.length cx] 25)).cell? ⟨J,0,none⟩ = some (.pointer (some ⟨g,0,none⟩))):=(Ch.of_below (bl _) : Ch g w2 _).cell HJ.out hJg
   have hlen2:=hlen.1
   go_wp2_with fail
   go_loopw [7] (fun v wr => elemsPRel n last.data.toList e w g J L r v wr) (fun _ wr => L.length - posP wr g)
   case atStart =>
    exact ⟨m2,[a],q,some ⟨w2.heap.size,0,none⟩,1,hmn,rfl,HE2.out,HO.out,HP2.out,HC2.out,by simp only [List.length_cons,List.length_nil] at *;omega,HJ2.out⟩
   case round =>
    clear HP HC HP2 HC2 HO NAx HE2 hgl hmn hwx hwz HJ HJ2 hlen2
    obtain ⟨m3,acc,q3,A3,d3,hm3,rfl,hE3,ho3,hp3,hc3,hb3,hj3⟩:=hrel
    obtain ⟨u,z,rfl⟩:=hp3.fin.ex
    have hps:=hid hp3.pos
    have HP:=hid hp3
    have HC:=hid hc3
    have HO:=hid ho3
    have hgl:=hp3.lt
    have hlen3:=hp3.len
    have HJ:=hid hj3
    clear hj3
    clear hp3 hc3 ho3
    rcases Sy.inv_if (show RunN m3 (if fx (u :: z) = [44] then Sy.cl (Sy.elm e) (u :: z).tail fun a r => .call (.elemL last.data.toList e (acc ++ [a])) r .ret else Sy.tk last.data.toList (u :: z) fun r => .ret (.ok (nd 0 acc) r)) r from hE3) with ⟨h4,hE4⟩ | ⟨h4,hE4⟩
    ·
     obtain ⟨m4,hm4,hF4⟩:=Sy.inv_cl hE4
     rcases hF4 with ⟨q4,hF4,rfl⟩ | ⟨b4,q4,hF4,hE5⟩
     all_goals have C2:=hid (HK.out m4 (by omega) _ _ hF4)
     ·
      clear hE3 hE4 hF4 hm4 hm3
      go_wp2_with fail
      refine mv2 (skip_yes g L u z ⟨#[44]⟩ _ HP.out h4 (by decide)) HC.out hlt ?_
      clear HP HC hgl
      intro w5 HP HC hgl hc
      replace HO:=hid (HO.out.ch hc (by omega))
      replace HJ:=hid ((hc : Ch g _ _).cell HJ.out hJg)
      clear hc
      go_wp2_with fail
      refine (C2.out _ _ HP.out HJ.out).mono ?_
      intro e wz hp
      obtain ⟨rfl,hc⟩:=hp
      go_wp2_with fail
      exact ⟨rfl,rfl,HC.out.trans hc⟩
     ·
      have hq4 : q4.length <= z.length:=Sy.ev_le hF4.ev
      obtain ⟨m5,hm5,hE5⟩:=Sy.inv_tail hE5
      have HE5:=hid hE5
      have hmn5 : m5 < n:=by omega
      clear hE3 hE4 hF4 hm4 hm3 hE5 hm5
      go_wp2_with fail
      refine mv2 (skip_yes g L u z ⟨#[44]⟩ _ HP.out h4 (by decide)) HC.out hlt ?_
      clear HP HC hgl
      intro w5 HP HC hgl hc
      replace HO:=hid (HO.out.ch hc (by omega))
      replace HJ:=hid ((hc : Ch g _ _).cell HJ.out hJg)
      clear hc
      go_wp2_with fail
      have hwc:=HC.out.size
      have HLT:=hid HO.out.lt
      refine ok2 (S':=fun b => w5.heap.size <= b) (C2.out _ _ HP.out HJ.out) HC.out hlt (fun b hb => hb) ?_
      clear HP HC hgl
      intro Ay cy w6 NAy HP HC hgl hc
      have HCK:=hid hc
      replace HO:=hid (HO.out.ch hc (by omega))
      replace HJ:=hid ((hc : Ch g _ _).cell HJ.out hJg)
      clear hc
      unfold ndV
      have hwy:=HC.out.size
      have hcw : w5.heap.size <= w6.heap.size:=by have:=HCK.out.size;exact this
      have hbz : acc.length <= 1000000:=by simp only [List.length_cons] at *;omega
      go_wp2_with (at_builtin;refine wpList_appNode rfl (.tmp 16) (.tmp 19) rfl w.heap.size (.slice A3 acc.length d3) acc b4 #[.int .i64 b4.op,.string ⟨b4.nm.toArray⟩,.int .i64 b4.n,.string ⟨b4.t.toArray⟩,.slice Ay b4.l.length cy] rfl HO.out NAy.out (fun b hb _ => ⟨Nat.le_trans hwc hb,fun e => by have:=(HLT.out b e).2;have hb : w5.heap.size <= b:=hb;omega⟩) rfl hbz hwy ?_;intro A6 c6 w6 ho6 hb6)
      have GP:=hid (HP.out.belowb hb6 hlt)
      have GH:=hid (HC.out.belowb hb6 (Nat.le_refl _))
      have hpos:=GP.out.pos
      have GJ:=hid ((hb6.cell (p:=⟨J,0,none⟩) hJlt).trans HJ.out)
      refine ⟨⟨m5,acc ++ [b4],q4,A6,c6,hmn5,by simp,HE5.out,by simpa using ho6,GP.out,GH.out,by simp only [List.length_cons,List.length_append,List.length_nil] at *;omega,GJ.out⟩,?_⟩
      rw [hpos,hps.out]
      simp only [List.length_cons] at *
      omega
    ·
     rcases Sy.inv_tk hE4 with ⟨h5,hE5⟩ | ⟨h5,rfl⟩
     ·
      obtain rfl:=Sy.inv_ret hE5
      clear hE3 hE4 hE5 hm3
      go_wp2_with fail
      refine mv2 (skip_no g L u z ⟨#[44]⟩ _ HP.out h4) HC.out hlt ?_
      clear HP HC hgl
      intro w5 HP HC hgl hc
      replace HO:=hid (HO.out.ch hc (by omega))
      replace HJ:=hid ((hc : Ch g _ _).cell HJ.out hJg)
      clear hc
      go_wp2_with fail
      refine mv2 (take_yes g L u z last _ HP.out h5 HL0.out) HC.out hlt ?_
      clear HP HC hgl
      intro w6 HP HC hgl hc
      replace HO:=hid (HO.out.ch hc (by omega))
      replace HJ:=hid ((hc : Ch g _ _).cell HJ.out hJg)
      clear hc
      go_wp2_with fail
      go_ret
      exact ⟨A3,d3,rfl,HO.out,HP.out,HC.out,by show acc.length <= 30000;simp only [List.length_cons] at *;omega⟩
     ·
      clear hE3 hE4 hm3
      go_wp2_with fail
      refine mv2 (skip_no g L u z ⟨#[44]⟩ _ HP.out h4) HC.out hlt ?_
      clear HP HC hgl
      intro w5 HP HC hgl hc
      replace HO:=hid (HO.out.ch hc (by omega))
      replace HJ:=hid ((hc : Ch g _ _).cell HJ.out hJg)
      clear hc
      go_wp2_with fail
      refine (take_no g L u z last _ HP.out h5).mono ?_
      intro e wz hp
      obtain ⟨rfl,hc⟩:=hp
      go_wp2_with fail
      exact ⟨rfl,rfl,HC.out.trans hc⟩
end Go.Proofs.YtgeppafcemeidaaGreatDoor
namespace Go.Proofs.YtgeppafcemeidaaGreatDoor
open Go.RowKit
open Sy (N NT R Ev Run Pg fx hd body opnd inf RunN EvN nd nmd)
open Tk (T)
open Sy (Fin TB)
attribute [local go_sem ↓] Tryz.field0 Tryz.field1
theorem tok_cell {w : World} {g : Nat} {u : Value} {cs : Array Value} {ty : TypeId} (i : Nat) : ((w.setCell ⟨g,1,none⟩ u).alloc (.cells cs ty)).cell? ⟨w.heap.size,i,none⟩ = cs[i]?:=by
 have h:=heap_alloc_new (w.setCell ⟨g,1,none⟩ u) (.cells cs ty)
 rw [show (w.setCell ⟨g,1,none⟩ u).heap.size = w.heap.size by simp [World.setCell]] at h
 exact cellAt h i
theorem lit_c (n : Nat) (H : AllX n) (l : List T) (r : R) (hE : EvN n .lit l r) : CF 171 l r:=by
 intro g L w h
 have hlt:=h.lt
 obtain ⟨t,s,rfl⟩:=h.fin.ex
 have htb:=h.fin.tb
 obtain ⟨htn0,htn1,htt,-,-⟩:=htb
 rcases Sy.inv_if (show RunN n (if t.k = 3 then .ret (.ok (.mk 4 [] t.n [] []) s) else if t.k = 4 then .ret (.ok (.mk 5 [] 0 t.t []) s) else if fx (t :: s) = [116,114,117,101] then .ret (.ok (nd 2 []) s) else if fx (t :: s) = [102,97,108,115,101] then .ret (.ok (nd 3 []) s) else Sy.tk [110,117,108,108] (t :: s) fun r => .ret (.ok (nd 1 []) r)) r from hE) with ⟨h1,hE1⟩ | ⟨h1,hE1⟩
 ·
  obtain rfl:=Sy.inv_ret hE1
  have hb3 : (t.k == 3) = true:=by simpa using h1
  have hk0 : Hid (t.k ≠ 0):=fun e => by omega
  clear hE hE1 h1 H
  have HP : Hid (Pt (w.alloc zNode) g L (t :: s)):=h.below (bl _)
  have HC : Hid (Ch g w (w.alloc zNode)):=Ch.of_below (bl _)
  have HZ : Hid (Nb (w.alloc zNode) w.heap.size 0 [] 0 [] none 0 0):=Nb.zero
  have hz:=HZ.out.lt
  have hgl:=HP.out.lt
  clear h
  go_enter Tryz.func171,Tryz.ntmps171
  go_wp2_with fail
  have CN1:=hid (fun W (hW : Pt W g L (t :: s)) => next_any g L t s W hW)
  unfold tkV at CN1
  refine qt3 (CN1.out _ HP.out) HP.out HC.out HZ.out ?_
  clear HP HC HZ hz hgl
  intro w1 HP HC HZ hz hgl hc
  clear hc
  have hn2 : L.length - (t :: s).length <= 20000:=by have:=HP.out.len;omega
  obtain ⟨n0,hn⟩ : ∃ n0,n0 = L.length - (t :: s).length:=⟨_,rfl⟩
  rw [<- hn] at hn2
  have HN0:=hid hn
  clear hn
  have hcp:=HP.out.cell1' HN0.out
  have hfp:=HP.out.free 1
  go_upto_region 4 with (fail)
  have GP : Hid (Pt ((w1.setCell ⟨g,1,none⟩ (.int .i64 ((n0 : Int) + 1))).alloc (.cells #[.int .i64 t.k,.int .i64 t.at_,.string ⟨t.t.toArray⟩,.int .i64 t.n] 59)) g L s):=(HP.out.step' hk0.out HN0.out).below (bl _)
  have GH : Hid (Ch g w ((w1.setCell ⟨g,1,none⟩ (.int .i64 ((n0 : Int) + 1))).alloc (.cells #[.int .i64 t.k,.int .i64 t.at_,.string ⟨t.t.toArray⟩,.int .i64 t.n] 59))):=(HC.out.trans (Ch.set _ _ _ _)).trans (Ch.of_below (bl _))
  have GZ : Hid (Nb ((w1.setCell ⟨g,1,none⟩ (.int .i64 ((n0 : Int) + 1))).alloc (.cells #[.int .i64 t.k,.int .i64 t.at_,.string ⟨t.t.toArray⟩,.int .i64 t.n] 59)) w.heap.size 0 [] 0 [] none 0 0):=(HZ.out.ch (Ch.set _ _ _ _) (by omega)).below (bl _)
  have GT : ((w1.setCell ⟨g,1,none⟩ (.int .i64 ((n0 : Int) + 1))).alloc (.cells #[.int .i64 t.k,.int .i64 t.at_,.string ⟨t.t.toArray⟩,.int .i64 t.n] 59)).cell? ⟨w1.heap.size,3,none⟩ = some (.int .i64 t.n):=tok_cell 3
  generalize ((w1.setCell ⟨g,1,none⟩ (.int .i64 ((n0 : Int) + 1))).alloc (.cells #[.int .i64 t.k,.int .i64 t.at_,.string ⟨t.t.toArray⟩,.int .i64 t.n] 59)) = w9 at *
  replace HZ:=GZ
  clear HP HC hcp hfp HN0
  have z0:=HZ.out.c0
  have f0:=HZ.out.free 0
  have z1:=HZ.out.c1
  have f1:=HZ.out.free 1
  have z2:=HZ.out.c2
  have f2:=HZ.out.free 2
  have z3:=HZ.out.c3
  have f3:=HZ.out.free 3
  have z4:=HZ.out.c4
  have f4:=HZ.out.free 4
  go_wp2_with fail
  have NAY : NA w9 (fun b => w.heap.size < b) (ndV 4 [] t.n [] none 0 0) (.mk 4 [] t.n [] []):=na_nd (l:=[]) (by omega) (by omega) (by simp) (by simp) (by simp) KR.nil_
  exact bodyPost_ret (v:=ndV 4 [] t.n [] none 0 0) (by simp [results,Tryz.results171,go_sem,ndV,z0,z1,z2,z3,z4,f0,f1,f2,f3,f4]) rfl (fin_st GP.out GH.out hlt NAY)
 rcases Sy.inv_if hE1 with ⟨h2,hE1⟩ | ⟨h2,hE1⟩
 ·
  obtain rfl:=Sy.inv_ret hE1
  have hb3 : (t.k == 3) = false:=by simpa using h1
  have hb4 : (t.k == 4) = true:=by simpa using h2
  have hk0 : Hid (t.k ≠ 0):=fun e => by omega
  clear hE hE1 h1 h2 H
  have HP : Hid (Pt (w.alloc zNode) g L (t :: s)):=h.below (bl _)
  have HC : Hid (Ch g w (w.alloc zNode)):=Ch.of_below (bl _)
  have HZ : Hid (Nb (w.alloc zNode) w.heap.size 0 [] 0 [] none 0 0):=Nb.zero
  have hz:=HZ.out.lt
  have hgl:=HP.out.lt
  clear h
  go_enter Tryz.func171,Tryz.ntmps171
  go_wp2_with fail
  have CN1:=hid (fun W (hW : Pt W g L (t :: s)) => next_any g L t s W hW)
  unfold tkV at CN1
  refine qt3 (CN1.out _ HP.out) HP.out HC.out HZ.out ?_
  clear HP HC HZ hz hgl
  intro w1 HP HC HZ hz hgl hc
  clear hc
  have hn2 : L.length - (t :: s).length <= 20000:=by have:=HP.out.len;omega
  obtain ⟨n0,hn⟩ : ∃ n0,n0 = L.length - (t :: s).length:=⟨_,rfl⟩
  rw [<- hn] at hn2
  have HN0:=hid hn
  clear hn
  have hcp:=HP.out.cell1' HN0.out
  have hfp:=HP.out.free 1
  go_upto_region 7 with (fail)
  have GP : Hid (Pt ((w1.setCell ⟨g,1,none⟩ (.int .i64 ((n0 : Int) + 1))).alloc (.cells #[.int .i64 t.k,.int .i64 t.at_,.string ⟨t.t.toArray⟩,.int .i64 t.n] 59)) g L s):=(HP.out.step' hk0.out HN0.out).below (bl _)
  have GH : Hid (Ch g w ((w1.setCell ⟨g,1,none⟩ (.int .i64 ((n0 : Int) + 1))).alloc (.cells #[.int .i64 t.k,.int .i64 t.at_,.string ⟨t.t.toArray⟩,.int .i64 t.n] 59))):=(HC.out.trans (Ch.set _ _ _ _)).trans (Ch.of_below (bl _))
  have GZ : Hid (Nb ((w1.setCell ⟨g,1,none⟩ (.int .i64 ((n0 : Int) + 1))).alloc (.cells #[.int .i64 t.k,.int .i64 t.at_,.string ⟨t.t.toArray⟩,.int .i64 t.n] 59)) w.heap.size 0 [] 0 [] none 0 0):=(HZ.out.ch (Ch.set _ _ _ _) (by omega)).below (bl _)
  have GT : ((w1.setCell ⟨g,1,none⟩ (.int .i64 ((n0 : Int) + 1))).alloc (.cells #[.int .i64 t.k,.int .i64 t.at_,.string ⟨t.t.toArray⟩,.int .i64 t.n] 59)).cell? ⟨w1.heap.size,2,none⟩ = some (.string ⟨t.t.toArray⟩):=tok_cell 2
  generalize ((w1.setCell ⟨g,1,none⟩ (.int .i64 ((n0 : Int) + 1))).alloc (.cells #[.int .i64 t.k,.int .i64 t.at_,.string ⟨t.t.toArray⟩,.int .i64 t.n] 59)) = w9 at *
  replace HZ:=GZ
  clear HP HC hcp hfp HN0
  have z0:=HZ.out.c0
  have f0:=HZ.out.free 0
  have z1:=HZ.out.c1
  have f1:=HZ.out.free 1
  have z2:=HZ.out.c2
  have f2:=HZ.out.free 2
  have z3:=HZ.out.c3
  have f3:=HZ.out.free 3
  have z4:=HZ.out.c4
  have f4:=HZ.out.free 4
  go_wp2_with fail
  have NAY : NA w9 (fun b => w.heap.size < b) (ndV 5 [] 0 t.t none 0 0) (.mk 5 [] 0 t.t []):=na_nd (l:=[]) (by omega) (by omega) (by simp) htt (by simp) KR.nil_
  exact bodyPost_ret (v:=ndV 5 [] 0 t.t none 0 0) (by simp [results,Tryz.results171,go_sem,ndV,z0,z1,z2,z3,z4,f0,f1,f2,f3,f4]) rfl (fin_st GP.out GH.out hlt NAY)
 rcases Sy.inv_if hE1 with ⟨h3,hE1⟩ | ⟨h3,hE1⟩
 ·
  obtain rfl:=Sy.inv_ret hE1
  have hb3 : (t.k == 3) = false:=by simpa using h1
  have hb4 : (t.k == 4) = false:=by simpa using h2
  clear hE hE1 h1 h2 H
  have HP : Hid (Pt (w.alloc zNode) g L (t :: s)):=h.below (bl _)
  have HC : Hid (Ch g w (w.alloc zNode)):=Ch.of_below (bl _)
  have HZ : Hid (Nb (w.alloc zNode) w.heap.size 0 [] 0 [] none 0 0):=Nb.zero
  have hz:=HZ.out.lt
  have hgl:=HP.out.lt
  clear h
  go_enter Tryz.func171,Tryz.ntmps171
  go_wp2_with fail
  have CN1:=hid (fun W (hW : Pt W g L (t :: s)) => next_any g L t s W hW)
  unfold tkV at CN1
  refine qt3 (CN1.out _ HP.out) HP.out HC.out HZ.out ?_
  clear HP HC HZ hz hgl
  intro w1 HP HC HZ hz hgl hc
  clear hc
  have hbx : Below w1.heap.size w1 (w1.alloc (.cells #[.int .i64 t.k,.int .i64 t.at_,.string ⟨t.t.toArray⟩,.int .i64 t.n] 59)):=bl _
  have hgt : g < w1.heap.size:=hgl
  replace HP:=hid (HP.out.below hbx)
  replace HC:=hid (HC.out.trans (Ch.of_below hbx))
  replace HZ:=hid (HZ.out.below hbx)
  replace hz:=HZ.out.lt
  replace hgl:=HP.out.lt
  clear hbx
  go_wp2_with fail
  refine mv3 (skip_yes g L t s ⟨#[116,114,117,101]⟩ _ HP.out h3 (by decide)) HC.out HZ.out hlt ?_
  clear HP HC HZ hz hgl
  intro w2 HP HC HZ hz hgl hc
  clear hc
  go_wp2_with fail
  refine (node_any 2 none 0 0 _).mono ?_
  rintro e w3 ⟨rfl,hb⟩
  have hk:=(KR.nil_ (w:=w3) (S:=fun b => w.heap.size < b))
  have hB : Below w2.heap.size w2 w3:=hb
  have hx:=gw3 HP.out HC.out HZ.out hB
  clear HP HC HZ hz hgl hB
  obtain ⟨HP,HC,HZ,hz,hgl⟩:=hx
  have NAY:=hid (na_nd (op:=2) (s:=[]) (n:=0) (t:=[]) (l:=[]) (by first | omega | (constructor <;> omega) | assumption) (by omega) (by first | assumption | simp | omega) (by first | assumption | simp | omega) (by simp) hk)
  clear hk hb
  unfold ndV
  have z0:=HZ.out.c0
  have f0:=HZ.out.free 0
  have z1:=HZ.out.c1
  have f1:=HZ.out.free 1
  have z2:=HZ.out.c2
  have f2:=HZ.out.free 2
  have z3:=HZ.out.c3
  have f3:=HZ.out.free 3
  have z4:=HZ.out.c4
  have f4:=HZ.out.free 4
  go_wp2_with fail
  exact bodyPost_ret (v:=ndV 2 [] 0 [] none 0 0) (by simp [results,Tryz.results171,go_sem,ndV,z0,z1,z2,z3,z4,f0,f1,f2,f3,f4]) rfl (fin_st HP.out HC.out hlt NAY.out)
 rcases Sy.inv_if hE1 with ⟨h4,hE1⟩ | ⟨h4,hE1⟩
 ·
  obtain rfl:=Sy.inv_ret hE1
  have hb3 : (t.k == 3) = false:=by simpa using h1
  have hb4 : (t.k == 4) = false:=by simpa using h2
  clear hE hE1 h1 h2 H
  have HP : Hid (Pt (w.alloc zNode) g L (t :: s)):=h.below (bl _)
  have HC : Hid (Ch g w (w.alloc zNode)):=Ch.of_below (bl _)
  have HZ : Hid (Nb (w.alloc zNode) w.heap.size 0 [] 0 [] none 0 0):=Nb.zero
  have hz:=HZ.out.lt
  have hgl:=HP.out.lt
  clear h
  go_enter Tryz.func171,Tryz.ntmps171
  go_wp2_with fail
  have CN1:=hid (fun W (hW : Pt W g L (t :: s)) => next_any g L t s W hW)
  unfold tkV at CN1
  refine qt3 (CN1.out _ HP.out) HP.out HC.out HZ.out ?_
  clear HP HC HZ hz hgl
  intro w1 HP HC HZ hz hgl hc
  clear hc
  have hbx : Below w1.heap.size w1 (w1.alloc (.cells #[.int .i64 t.k,.int .i64 t.at_,.string ⟨t.t.toArray⟩,.int .i64 t.n] 59)):=bl _
  have hgt : g < w1.heap.size:=hgl
  replace HP:=hid (HP.out.below hbx)
  replace HC:=hid (HC.out.trans (Ch.of_below hbx))
  replace HZ:=hid (HZ.out.below hbx)
  replace hz:=HZ.out.lt
  replace hgl:=HP.out.lt
  clear hbx
  go_wp2_with fail
  refine mv3 (skip_no g L t s ⟨#[116,114,117,101]⟩ _ HP.out h3) HC.out HZ.out hlt ?_
  clear HP HC HZ hz hgl
  intro w2 HP HC HZ hz hgl hc
  clear hc
  go_wp2_with fail
  refine mv3 (skip_yes g L t s ⟨#[102,97,108,115,101]⟩ _ HP.out h4 (by decide)) HC.out HZ.out hlt ?_
  clear HP HC HZ hz hgl
  intro w3 HP HC HZ hz hgl hc
  clear hc
  go_wp2_with fail
  refine (node_any 3 none 0 0 _).mono ?_
  rintro e w4 ⟨rfl,hb⟩
  have hk:=(KR.nil_ (w:=w4) (S:=fun b => w.heap.size < b))
  have hB : Below w3.heap.size w3 w4:=hb
  have hx:=gw3 HP.out HC.out HZ.out hB
  clear HP HC HZ hz hgl hB
  obtain ⟨HP,HC,HZ,hz,hgl⟩:=hx
  have NAY:=hid (na_nd (op:=3) (s:=[]) (n:=0) (t:=[]) (l:=[]) (by first | omega | (constructor <;> omega) | assumption) (by omega) (by first | assumption | simp | omega) (by first | assumption | simp | omega) (by simp) hk)
  clear hk hb
  unfold ndV
  have z0:=HZ.out.c0
  have f0:=HZ.out.free 0
  have z1:=HZ.out.c1
  have f1:=HZ.out.free 1
  have z2:=HZ.out.c2
  have f2:=HZ.out.free 2
  have z3:=HZ.out.c3
  have f3:=HZ.out.free 3
  have z4:=HZ.out.c4
  have f4:=HZ.out.free 4
  go_wp2_with fail
  exact bodyPost_ret (v:=ndV 3 [] 0 [] none 0 0) (by simp [results,Tryz.results171,go_sem,ndV,z0,z1,z2,z3,z4,f0,f1,f2,f3,f4]) rfl (fin_st HP.out HC.out hlt NAY.out)
 rcases Sy.inv_tk hE1 with ⟨h5,hE1⟩ | ⟨h5,rfl⟩
 ·
  obtain rfl:=Sy.inv_ret hE1
  have hb3 : (t.k == 3) = false:=by simpa using h1
  have hb4 : (t.k == 4) = false:=by simpa using h2
  clear hE hE1 h1 h2 H
  have HP : Hid (Pt (w.alloc zNode) g L (t :: s)):=h.below (bl _)
  have HC : Hid (Ch g w (w.alloc zNode)):=Ch.of_below (bl _)
  have HZ : Hid (Nb (w.alloc zNode) w.heap.size 0 [] 0 [] none 0 0):=Nb.zero
  have hz:=HZ.out.lt
  have hgl:=HP.out.lt
  clear h
  go_enter Tryz.func171,Tryz.ntmps171
  go_wp2_with fail
  have CN1:=hid (fun W (hW : Pt W g L (t :: s)) => next_any g L t s W hW)
  unfold tkV at CN1
  refine qt3 (CN1.out _ HP.out) HP.out HC.out HZ.out ?_
  clear HP HC HZ hz hgl
  intro w1 HP HC HZ hz hgl hc
  clear hc
  have hbx : Below w1.heap.size w1 (w1.alloc (.cells #[.int .i64 t.k,.int .i64 t.at_,.string ⟨t.t.toArray⟩,.int .i64 t.n] 59)):=bl _
  have hgt : g < w1.heap.size:=hgl
  replace HP:=hid (HP.out.below hbx)
  replace HC:=hid (HC.out.trans (Ch.of_below hbx))
  replace HZ:=hid (HZ.out.below hbx)
  replace hz:=HZ.out.lt
  replace hgl:=HP.out.lt
  clear hbx
  go_wp2_with fail
  refine mv3 (skip_no g L t s ⟨#[116,114,117,101]⟩ _ HP.out h3) HC.out HZ.out hlt ?_
  clear HP HC HZ hz hgl
  intro w2 HP HC HZ hz hgl hc
  clear hc
  go_wp2_with fail
  refine mv3 (skip_no g L t s ⟨#[102,97,108,115,101]⟩ _ HP.out h4) HC.out HZ.out hlt ?_
  clear HP HC HZ hz hgl
  intro w3 HP HC HZ hz hgl hc
  clear hc
  go_wp2_with fail
  refine mv3 (take_yes g L t s ⟨#[110,117,108,108]⟩ _ HP.out h5 (by decide)) HC.out HZ.out hlt ?_
  clear HP HC HZ hz hgl
  intro w4 HP HC HZ hz hgl hc
  clear hc
  go_wp2_with fail
  refine (node_any 1 none 0 0 _).mono ?_
  rintro e w5 ⟨rfl,hb⟩
  have hk:=(KR.nil_ (w:=w5) (S:=fun b => w.heap.size < b))
  have hB : Below w4.heap.size w4 w5:=hb
  have hx:=gw3 HP.out HC.out HZ.out hB
  clear HP HC HZ hz hgl hB
  obtain ⟨HP,HC,HZ,hz,hgl⟩:=hx
  have NAY:=hid (na_nd (op:=1) (s:=[]) (n:=0) (t:=[]) (l:=[]) (by first | omega | (constructor <;> omega) | assumption) (by omega) (by first | assumption | simp | omega) (by first | assumption | simp | omega) (by simp) hk)
  clear hk hb
  unfold ndV
  have z0:=HZ.out.c0
  have f0:=HZ.out.free 0
  have z1:=HZ.out.c1
  have f1:=HZ.out.free 1
  have z2:=HZ.out.c2
  have f2:=HZ.out.free 2
  have z3:=HZ.out.c3
  have f3:=HZ.out.free 3
  have z4:=HZ.out.c4
  have f4:=HZ.out.free 4
  go_wp2_with fail
  exact bodyPost_ret (v:=ndV 1 [] 0 [] none 0 0) (by simp [results,Tryz.results171,go_sem,ndV,z0,z1,z2,z3,z4,f0,f1,f2,f3,f4]) rfl (fin_st HP.out HC.out hlt NAY.out)
 ·
  have hb3 : (t.k == 3) = false:=by simpa using h1
  have hb4 : (t.k == 4) = false:=by simpa using h2
  clear hE hE1 h1 h2 H
  have HP : Hid (Pt (w.alloc zNode) g L (t :: s)):=h.below (bl _)
  have HC : Hid (Ch g w (w.alloc zNode)):=Ch.of_below (bl _)
  have HZ : Hid (Nb (w.alloc zNode) w.heap.size 0 [] 0 [] none 0 0):=Nb.zero
  have hz:=HZ.out.lt
  have hgl:=HP.out.lt
  clear h
  go_enter Tryz.func171,Tryz.ntmps171
  go_wp2_with fail
  have CN1:=hid (fun W (hW : Pt W g L (t :: s)) => next_any g L t s W hW)
  unfold tkV at CN1
  refine qt3 (CN1.out _ HP.out) HP.out HC.out HZ.out ?_
  clear HP HC HZ hz hgl
  intro w1 HP HC HZ hz hgl hc
  clear hc
  have hbx : Below w1.heap.size w1 (w1.alloc (.cells #[.int .i64 t.k,.int .i64 t.at_,.string ⟨t.t.toArray⟩,.int .i64 t.n] 59)):=bl _
  have hgt : g < w1.heap.size:=hgl
  replace HP:=hid (HP.out.below hbx)
  replace HC:=hid (HC.out.trans (Ch.of_below hbx))
  replace HZ:=hid (HZ.out.below hbx)
  replace hz:=HZ.out.lt
  replace hgl:=HP.out.lt
  clear hbx
  go_wp2_with fail
  refine mv3 (skip_no g L t s ⟨#[116,114,117,101]⟩ _ HP.out h3) HC.out HZ.out hlt ?_
  clear HP HC HZ hz hgl
  intro w2 HP HC HZ hz hgl hc
  clear hc
  go_wp2_with fail
  refine mv3 (skip_no g L t s ⟨#[102,97,108,115,101]⟩ _ HP.out h4) HC.out HZ.out hlt ?_
  clear HP HC HZ hz hgl
  intro w3 HP HC HZ hz hgl hc
  clear hc
  go_wp2_with fail
  refine (take_no g L t s ⟨#[110,117,108,108]⟩ _ HP.out h5).mono ?_
  intro e wz hp
  obtain ⟨rfl,hc⟩:=hp
  go_wp2_with fail
  exact ⟨rfl,rfl,HC.out.trans hc⟩
theorem Tryz.en_expr (args : Array Value) (W : World) : (callFunc 35 args).run Tryz.prog W = .ok (.enter 35 args) W:=by kernel_rfl
theorem Tryz.en_pair (args : Array Value) (W : World) : (callFunc 252 args).run Tryz.prog W = .ok (.enter 252 args) W:=by kernel_rfl
theorem elemsX (n : Nat) (hX : CN n (.chain 1) 35) (m : Nat) (hm : m <= n) (last : ByteArray) (hl0 : last.data.toList ≠ []) (hl1 : last.data.toList ≠ [44]) (l : List T) (r : R) (hE : EvN m (.elems last.data.toList 0) l r) (g : Nat) (L : List T) (w : World) (h : Pt w g L l) :
  Calls Tryz.prog 137 #[.pointer (some ⟨g,0,none⟩),.string last,.func (.func 35) #[.pointer (some ⟨g,0,none⟩)] #[]] w (PostK g L w r) :=
 elemsB_any 35 Tryz.en_expr m 0 g (fun k hk l r hE L W hW => hX k (by omega) l r hE g L W hW) last hl0 hl1 l r hE L w h
theorem elemsY (n : Nat) (hX : CN n .pair 252) (m : Nat) (hm : m <= n) (last : ByteArray) (hl0 : last.data.toList ≠ []) (hl1 : last.data.toList ≠ [44]) (l : List T) (r : R) (hE : EvN m (.elems last.data.toList 1) l r) (g : Nat) (L : List T) (w : World) (h : Pt w g L l) :
  Calls Tryz.prog 137 #[.pointer (some ⟨g,0,none⟩),.string last,.func (.func 252) #[.pointer (some ⟨g,0,none⟩)] #[]] w (PostK g L w r) :=
 elemsB_any 252 Tryz.en_pair m 1 g (fun k hk l r hE L W hW => hX k (by omega) l r hE g L W hW) last hl0 hl1 l r hE L w h
theorem fcall_c (n : Nat) (H : AllX n) (op : Int) (ho0 : 0 <= op) (ho1 : op <= 100) (l : List T) (r : R) (hE : EvN n (.fcall op) l r) : CG 222 op l r:=by
 intro g L w h
 have hlt:=h.lt
 obtain ⟨t,s,rfl⟩:=h.fin.ex
 have htt:=h.fin.tb.2.2.1
 rcases Sy.inv_nm (show RunN n (Sy.nm (t :: s) fun s1 r => Sy.tk [40] r fun r => Sy.cl (.elems [41] 0) r fun k r => .ret (.ok (nmd op s1 k.l) r)) r from hE) with ⟨h1,hE1⟩ | ⟨h1,rfl⟩
 ·
  have hf2:=h.fin.tail (show t.k ≠ 0 by have : t.k = 1:=h1;omega)
  obtain ⟨u,z,rfl⟩:=hf2.ex
  rcases Sy.inv_tk hE1 with ⟨h2,hE2⟩ | ⟨h2,rfl⟩
  ·
   obtain ⟨m,hm,hF⟩:=Sy.inv_cl hE2
   rcases hF with ⟨q,hF,rfl⟩ | ⟨a,q,hF,hE3⟩
   all_goals have C:=hid (fun W (hW : Pt W g L z) => elemsX n H.expr m (by omega) ⟨#[41]⟩ (by decide) (by decide) _ _ hF g L W hW)
   ·
    clear hE hE1 hE2 hF hm hf2 H
    have hmf : ∀ (fn : Fn) (first cap : Array Value) (w : World),(Instr.makeFunc fn first cap).run Tryz.prog w = .ok (.func fn first cap) w:=fun _ _ _ _ => rfl
    have HP : Hid (Pt (w.alloc zNode) g L (t :: u :: z)):=h.below (bl _)
    have HC : Hid (Ch g w (w.alloc zNode)):=Ch.of_below (bl _)
    have HZ : Hid (Nb (w.alloc zNode) w.heap.size 0 [] 0 [] none 0 0):=Nb.zero
    have hz:=HZ.out.lt
    have hgl:=HP.out.lt
    clear h
    go_enter Tryz.func222,Tryz.ntmps222
    go_wp2_with fail
    refine mv3 (name_yes g L t (u :: z) _ HP.out h1) HC.out HZ.out hlt ?_
    clear HP HC HZ hz hgl
    intro w1 HP HC HZ hz hgl hc
    clear hc
    go_wp2_with fail
    refine mv3 (take_yes g L u z ⟨#[40]⟩ _ HP.out h2 (by decide)) HC.out HZ.out hlt ?_
    clear HP HC HZ hz hgl
    intro w2 HP HC HZ hz hgl hc
    clear hc
    go_wp2_with fail
    refine (C.out _ HP.out).mono ?_
    intro e wz hp
    obtain ⟨rfl,hc⟩:=hp
    go_wp2_with fail
    exact ⟨rfl,rfl,HC.out.trans hc⟩
   ·
    obtain rfl:=Sy.inv_ret hE3
    clear hE hE1 hE2 hE3 hF hm hf2 H
    have hmf : ∀ (fn : Fn) (first cap : Array Value) (w : World),(Instr.makeFunc fn first cap).run Tryz.prog w = .ok (.func fn first cap) w:=fun _ _ _ _ => rfl
    have HP : Hid (Pt (w.alloc zNode) g L (t :: u :: z)):=h.below (bl _)
    have HC : Hid (Ch g w (w.alloc zNode)):=Ch.of_below (bl _)
    have HZ : Hid (Nb (w.alloc zNode) w.heap.size 0 [] 0 [] none 0 0):=Nb.zero
    have hz:=HZ.out.lt
    have hgl:=HP.out.lt
    clear h
    go_enter Tryz.func222,Tryz.ntmps222
    go_wp2_with fail
    refine mv3 (name_yes g L t (u :: z) _ HP.out h1) HC.out HZ.out hlt ?_
    clear HP HC HZ hz hgl
    intro w1 HP HC HZ hz hgl hc
    clear hc
    go_wp2_with fail
    refine mv3 (take_yes g L u z ⟨#[40]⟩ _ HP.out h2 (by decide)) HC.out HZ.out hlt ?_
    clear HP HC HZ hz hgl
    intro w2 HP HC HZ hz hgl hc
    clear hc
    go_wp2_with fail
    have hzk:=hz
    refine (C.out _ HP.out).mono ?_
    intro e w3 hp
    obtain ⟨Ax,cx,rfl,hok,hp,hc,hll⟩:=hp
    have HKx:=hid hok
    replace HP:=hid hp
    replace HC:=hid (HC.out.trans hc)
    replace HZ:=hid (HZ.out.ch hc (by omega))
    replace hz:=HZ.out.lt
    replace hgl:=HP.out.lt
    clear hc hp hok
    go_wp2_with fail
    refine (named_any op t.t Ax a.l.length cx _).mono ?_
    rintro e w4 ⟨rfl,hb⟩
    have hk:=((HKx.out.kr).more (S':=fun b => w.heap.size < b) (fun b hb _ => Nat.lt_of_lt_of_le hzk hb)).below hb
    have hB : Below w3.heap.size w3 w4:=hb
    replace HP:=hid (HP.out.below hB)
    replace HC:=hid (HC.out.trans (Ch.of_below hB))
    replace HZ:=hid (HZ.out.below hB)
    replace hz:=HZ.out.lt
    replace hgl:=HP.out.lt
    have NAY:=hid (na_nd (op:=op) (s:=t.t) (n:=0) (t:=[]) (l:=a.l) (by first | omega | (constructor <;> omega) | assumption) (by omega) (by first | assumption | simp | omega) (by simp) (by omega) hk)
    clear hk hb hB
    unfold ndV
    have z0:=HZ.out.c0
    have f0:=HZ.out.free 0
    have z1:=HZ.out.c1
    have f1:=HZ.out.free 1
    have z2:=HZ.out.c2
    have f2:=HZ.out.free 2
    have z3:=HZ.out.c3
    have f3:=HZ.out.free 3
    have z4:=HZ.out.c4
    have f4:=HZ.out.free 4
    go_wp2_with fail
    exact bodyPost_ret (v:=ndV op t.t 0 [] Ax a.l.length cx) (by simp [results,Tryz.results222,go_sem,ndV,z0,z1,z2,z3,z4,f0,f1,f2,f3,f4]) rfl (fin_st HP.out HC.out hlt NAY.out)
  ·
   clear hE hE1 hf2 H
   have hmf : ∀ (fn : Fn) (first cap : Array Value) (w : World),(Instr.makeFunc fn first cap).run Tryz.prog w = .ok (.func fn first cap) w:=fun _ _ _ _ => rfl
   have HP : Hid (Pt (w.alloc zNode) g L (t :: u :: z)):=h.below (bl _)
   have HC : Hid (Ch g w (w.alloc zNode)):=Ch.of_below (bl _)
   have HZ : Hid (Nb (w.alloc zNode) w.heap.size 0 [] 0 [] none 0 0):=Nb.zero
   have hz:=HZ.out.lt
   have hgl:=HP.out.lt
   clear h
   go_enter Tryz.func222,Tryz.ntmps222
   go_wp2_with fail
   refine mv3 (name_yes g L t (u :: z) _ HP.out h1) HC.out HZ.out hlt ?_
   clear HP HC HZ hz hgl
   intro w1 HP HC HZ hz hgl hc
   clear hc
   go_wp2_with fail
   refine (take_no g L u z ⟨#[40]⟩ _ HP.out h2).mono ?_
   intro e wz hp
   obtain ⟨rfl,hc⟩:=hp
   go_wp2_with fail
   exact ⟨rfl,rfl,HC.out.trans hc⟩
 ·
  clear hE H
  have hmf : ∀ (fn : Fn) (first cap : Array Value) (w : World),(Instr.makeFunc fn first cap).run Tryz.prog w = .ok (.func fn first cap) w:=fun _ _ _ _ => rfl
  have HP : Hid (Pt (w.alloc zNode) g L (t :: s)):=h.below (bl _)
  have HC : Hid (Ch g w (w.alloc zNode)):=Ch.of_below (bl _)
  have HZ : Hid (Nb (w.alloc zNode) w.heap.size 0 [] 0 [] none 0 0):=Nb.zero
  have hz:=HZ.out.lt
  have hgl:=HP.out.lt
  clear h
  go_enter Tryz.func222,Tryz.ntmps222
  go_wp2_with fail
  refine (name_no g L t s _ HP.out h1).mono ?_
  intro e wz hp
  obtain ⟨rfl,hc⟩:=hp
  go_wp2_with fail
  exact ⟨rfl,rfl,HC.out.trans hc⟩
end Go.Proofs.YtgeppafcemeidaaGreatDoor
namespace Go.Proofs.YtgeppafcemeidaaGreatDoor
open Go.RowKit
open Sy (N NT R Ev Run Pg fx hd body opnd inf RunN EvN nd nmd)
open Tk (T)
open Sy (Fin TB)
attribute [local go_sem ↓] Tryz.field0 Tryz.field1
theorem pair_c (n : Nat) (H : AllX n) (l : List T) (r : R) (hE : EvN n .pair l r) : CF 252 l r:=by
 intro g L w h
 have hlt:=h.lt
 obtain ⟨t,s,rfl⟩:=h.fin.ex
 have htb:=h.fin.tb
 obtain ⟨htn0,htn1,htt,-,-⟩:=htb
 have CN1:=hid (fun W (hW : Pt W g L (t :: s)) => next_any g L t s W hW)
 unfold tkV at CN1
 rcases Sy.inv_if (show RunN n (if t.k = 4 then Sy.tk [58] s fun r => Sy.cl (.chain 1) r fun a r => .ret (.ok (.mk 9 [] 0 t.t [a]) r) else .ret (.bad (t :: s))) r from hE) with ⟨h1,hE1⟩ | ⟨h1,hE1⟩
 ·
  have hf2:=h.fin.tail (show t.k ≠ 0 by omega)
  obtain ⟨u,z,rfl⟩:=hf2.ex
  have hb4 : (t.k == 4) = true:=by simpa using h1
  have hk0 : Hid (t.k ≠ 0):=fun e => by omega
  rcases Sy.inv_tk hE1 with ⟨h2,hE2⟩ | ⟨h2,rfl⟩
  ·
   obtain ⟨m,hm,hF⟩:=Sy.inv_cl hE2
   rcases hF with ⟨q,hF,rfl⟩ | ⟨a,q,hF,hE3⟩
   all_goals have C:=hid (fun W (hW : Pt W g L z) => H.expr m (by omega) _ _ hF g L W hW)
   ·
    clear hE hE1 hE2 hF hm hf2 H h1
    have HP : Hid (Pt (w.alloc zNode) g L (t :: u :: z)):=h.below (bl _)
    have HC : Hid (Ch g w (w.alloc zNode)):=Ch.of_below (bl _)
    have HZ : Hid (Nb (w.alloc zNode) w.heap.size 0 [] 0 [] none 0 0):=Nb.zero
    have hz:=HZ.out.lt
    have hgl:=HP.out.lt
    clear h
    go_enter Tryz.func252,Tryz.ntmps252
    go_wp2_with fail
    refine qt3 (CN1.out _ HP.out) HP.out HC.out HZ.out ?_
    clear HP HC HZ hz hgl
    intro w1 HP HC HZ hz hgl hc
    clear hc
    have hbx : Below w1.heap.size w1 (w1.alloc (.cells #[.int .i64 t.k,.int .i64 t.at_,.string ⟨t.t.toArray⟩,.int .i64 t.n] 59)):=bl _
    have hgt : g < w1.heap.size:=hgl
    replace HP:=hid (HP.out.below hbx)
    replace HC:=hid (HC.out.trans (Ch.of_below hbx))
    replace HZ:=hid (HZ.out.below hbx)
    replace hz:=HZ.out.lt
    replace hgl:=HP.out.lt
    clear hbx
    have HO : Hid ((w1.alloc (.cells #[.int .i64 t.k,.int .i64 t.at_,.string ⟨t.t.toArray⟩,.int .i64 t.n] 59)).cell? ⟨w1.heap.size,2,none⟩ = some (.string ⟨t.t.toArray⟩)):=by show _ = _;rw [World.cell?_alloc_mark];rfl
    go_wp2_with fail
    refine (require_yes g _).mono ?_
    rintro e w2 ⟨rfl,hw⟩
    rw [hw] at HP HC HO HZ hz hgl
    clear hw
    have hn2 : L.length - (t :: (u :: z)).length <= 20000:=by have:=HP.out.len;omega
    obtain ⟨n0,hn⟩ : ∃ n0,n0 = L.length - (t :: (u :: z)).length:=⟨_,rfl⟩
    rw [<- hn] at hn2
    have HN0:=hid hn
    clear hn
    have hcp:=HP.out.cell1' HN0.out
    have hfp:=HP.out.free 1
    go_wp2_with fail
    have hc : Ch g w2 (w2.setCell ⟨g,1,none⟩ (.int .i64 ((n0 : Int) + 1))):=Ch.set _ _ _ _
    replace HP:=hid (HP.out.step' hk0.out HN0.out)
    replace HC:=hid (HC.out.trans hc)
    replace HO:=hid (Ch.cell hc HO.out (show w1.heap.size ≠ g by omega))
    replace HZ:=hid (HZ.out.ch hc (by omega))
    replace hz:=HZ.out.lt
    replace hgl:=HP.out.lt
    clear hc hcp hfp HN0
    refine mv3 (take_yes g L u z ⟨#[58]⟩ _ HP.out h2 (by decide)) HC.out HZ.out hlt ?_
    clear HP HC HZ hz hgl
    intro w3 HP HC HZ hz hgl hc
    replace HO:=hid (Ch.cell hc HO.out (show w1.heap.size ≠ g by omega))
    clear hc
    go_wp2_with fail
    refine wp_region_any (by kernel_rfl) ?_
    change wpAny _ _ _ _ _ _ _ (World.drew _)
    have hbx : Below w3.heap.size w3 w3.drew:=(Below.refl _ _).drew
    replace HO:=hid ((hbx.cell (World.block_lt_of_cell? _ _ HO.out)).trans HO.out)
    have hx:=gw3 HP.out HC.out HZ.out hbx
    clear HP HC HZ hz hgl hbx
    obtain ⟨HP,HC,HZ,hz,hgl⟩:=hx
    refine wpAny_take (i:=0) (v:=?_) rfl (by kernel_rfl) (by kernel_rfl) (by kernel_rfl) (fun _ _ _ h => h) (Or.inl ⟨by rfl,?_⟩) ?_
    rotate_left
    ·
     intro w;go_simp
     first | done | with_reducible rfl
    try simp only [Act.put,y1,y2,y3,y4,y5,y6]
    refine wpAny_take (i:=2) (v:=?_) rfl (by kernel_rfl) (by kernel_rfl) (by kernel_rfl) (fun _ _ _ h => h) (Or.inl ⟨by rfl,?_⟩) ?_
    rotate_left
    ·
     intro w;go_simp
     first | done | with_reducible rfl
    try simp only [Act.put,y1,y2,y3,y4,y5,y6]
    refine wpAny_ready (rs:=[1,3]) (by kernel_rfl) (by simp) ?_
    refine AllReady.cons rfl (fun K hK => ?_) ?_
    have ho:=HO.out
    go_simp
    refine hK _ _ ?_
    clear hK K
    try simp only [Act.put,y1,y2,y3,y4,y5,y6]
    have mm1 : True:=trivial
    rotate_left
    refine AllReady.cons rfl (fun K hK => ?_) AllReady.nil
    go_simp
    refine (C.out _ HP.out).mono ?_
    intro e wx hp
    obtain ⟨rfl,hcx⟩:=hp
    exact ⟨rfl,rfl,HC.out.trans hcx⟩
    all_goals first
     | fail_if_success clear mm1
     |
      clear mm1
      refine wpAny_ready (rs:=[3]) (by kernel_rfl) (by simp) ?_
      refine AllReady.cons rfl (fun K hK => ?_) AllReady.nil
      go_simp
      refine (C.out _ HP.out).mono ?_
      intro e wx hp
      obtain ⟨rfl,hcx⟩:=hp
      exact ⟨rfl,rfl,HC.out.trans hcx⟩
    all_goals
     skip
   ·
    obtain rfl:=Sy.inv_ret hE3
    clear hE3
    clear hE hE1 hE2 hF hm hf2 H h1
    have HP : Hid (Pt (w.alloc zNode) g L (t :: u :: z)):=h.below (bl _)
    have HC : Hid (Ch g w (w.alloc zNode)):=Ch.of_below (bl _)
    have HZ : Hid (Nb (w.alloc zNode) w.heap.size 0 [] 0 [] none 0 0):=Nb.zero
    have hz:=HZ.out.lt
    have hgl:=HP.out.lt
    clear h
    go_enter Tryz.func252,Tryz.ntmps252
    go_wp2_with fail
    refine qt3 (CN1.out _ HP.out) HP.out HC.out HZ.out ?_
    clear HP HC HZ hz hgl
    intro w1 HP HC HZ hz hgl hc
    clear hc
    have hbx : Below w1.heap.size w1 (w1.alloc (.cells #[.int .i64 t.k,.int .i64 t.at_,.string ⟨t.t.toArray⟩,.int .i64 t.n] 59)):=bl _
    have hgt : g < w1.heap.size:=hgl
    replace HP:=hid (HP.out.below hbx)
    replace HC:=hid (HC.out.trans (Ch.of_below hbx))
    replace HZ:=hid (HZ.out.below hbx)
    replace hz:=HZ.out.lt
    replace hgl:=HP.out.lt
    clear hbx
    have HO : Hid ((w1.alloc (.cells #[.int .i64 t.k,.int .i64 t.at_,.string ⟨t.t.toArray⟩,.int .i64 t.n] 59)).cell? ⟨w1.heap.size,2,none⟩ = some (.string ⟨t.t.toArray⟩)):=by show _ = _;rw [World.cell?_alloc_mark];rfl
    go_wp2_with fail
    refine (require_yes g _).mono ?_
    rintro e w2 ⟨rfl,hw⟩
    rw [hw] at HP HC HO HZ hz hgl
    clear hw
    have hn2 : L.length - (t :: (u :: z)).length <= 20000:=by have:=HP.out.len;omega
    obtain ⟨n0,hn⟩ : ∃ n0,n0 = L.length - (t :: (u :: z)).length:=⟨_,rfl⟩
    rw [<- hn] at hn2
    have HN0:=hid hn
    clear hn
    have hcp:=HP.out.cell1' HN0.out
    have hfp:=HP.out.free 1
    go_wp2_with fail
    have hc : Ch g w2 (w2.setCell ⟨g,1,none⟩ (.int .i64 ((n0 : Int) + 1))):=Ch.set _ _ _ _
    replace HP:=hid (HP.out.step' hk0.out HN0.out)
    replace HC:=hid (HC.out.trans hc)
    replace HO:=hid (Ch.cell hc HO.out (show w1.heap.size ≠ g by omega))
    replace HZ:=hid (HZ.out.ch hc (by omega))
    replace hz:=HZ.out.lt
    replace hgl:=HP.out.lt
    clear hc hcp hfp HN0
    refine mv3 (take_yes g L u z ⟨#[58]⟩ _ HP.out h2 (by decide)) HC.out HZ.out hlt ?_
    clear HP HC HZ hz hgl
    intro w3 HP HC HZ hz hgl hc
    replace HO:=hid (Ch.cell hc HO.out (show w1.heap.size ≠ g by omega))
    clear hc
    go_wp2_with fail
    refine wp_region_any (by kernel_rfl) ?_
    change wpAny _ _ _ _ _ _ _ (World.drew _)
    have hbx : Below w3.heap.size w3 w3.drew:=(Below.refl _ _).drew
    replace HO:=hid ((hbx.cell (World.block_lt_of_cell? _ _ HO.out)).trans HO.out)
    have hx:=gw3 HP.out HC.out HZ.out hbx
    clear HP HC HZ hz hgl hbx
    obtain ⟨HP,HC,HZ,hz,hgl⟩:=hx
    refine wpAny_take (i:=0) (v:=?_) rfl (by kernel_rfl) (by kernel_rfl) (by kernel_rfl) (fun _ _ _ h => h) (Or.inl ⟨by rfl,?_⟩) ?_
    rotate_left
    ·
     intro w;go_simp
     first | done | with_reducible rfl
    try simp only [Act.put,y1,y2,y3,y4,y5,y6]
    refine wpAny_take (i:=2) (v:=?_) rfl (by kernel_rfl) (by kernel_rfl) (by kernel_rfl) (fun _ _ _ h => h) (Or.inl ⟨by rfl,?_⟩) ?_
    rotate_left
    ·
     intro w;go_simp
     first | done | with_reducible rfl
    try simp only [Act.put,y1,y2,y3,y4,y5,y6]
    refine wpAny_ready (rs:=[1,3]) (by kernel_rfl) (by simp) ?_
    refine AllReady.cons rfl (fun K hK => ?_) ?_
    have ho:=HO.out
    go_simp
    refine hK _ _ ?_
    clear hK K
    try simp only [Act.put,y1,y2,y3,y4,y5,y6]
    have mm1 : True:=trivial
    rotate_left
    refine AllReady.cons rfl (fun K hK => ?_) AllReady.nil
    go_simp
    refine ok3 (S':=fun b => w.heap.size < b) (C.out _ HP.out) HC.out HZ.out hlt (fun b hb => Nat.lt_of_lt_of_le hz hb) ?_
    clear HP HC HZ hz hgl
    intro Ax cx w4 NAx HP HC HZ hz hgl hc
    replace HO:=hid (Ch.cell hc HO.out (show w1.heap.size ≠ g by omega))
    clear hc
    unfold ndV
    refine hK _ _ ?_
    clear hK K
    try simp only [Act.put,y1,y2,y3,y4,y5,y6]
    have mm2 : True:=trivial
    rotate_left
    all_goals first
     | fail_if_success clear mm1
     |
      clear mm1
      refine wpAny_ready (rs:=[3]) (by kernel_rfl) (by simp) ?_
      refine AllReady.cons rfl (fun K hK => ?_) AllReady.nil
      go_simp
      refine ok3 (S':=fun b => w.heap.size < b) (C.out _ HP.out) HC.out HZ.out hlt (fun b hb => Nat.lt_of_lt_of_le hz hb) ?_
      clear HP HC HZ hz hgl
      intro Ax cx w4 NAx HP HC HZ hz hgl hc
      replace HO:=hid (Ch.cell hc HO.out (show w1.heap.size ≠ g by omega))
      clear hc
      unfold ndV
      refine hK _ _ ?_
      clear hK K
      try simp only [Act.put,y1,y2,y3,y4,y5,y6]
      have mm3 : True:=trivial
      rotate_left
    all_goals first
     | fail_if_success clear mm2
     |
      clear mm2
      refine wpAny_ready (rs:=[1,4]) (by kernel_rfl) (by simp) ?_
      refine AllReady.cons rfl (fun K hK => ?_) ?_
      have ho:=HO.out
      go_simp
      refine hK _ _ ?_
      clear hK K
      try simp only [Act.put,y1,y2,y3,y4,y5,y6]
      have mm3 : True:=trivial
      rotate_left
      refine AllReady.cons rfl (fun K hK => ?_) AllReady.nil
      go_simp
      refine hK _ _ ?_
      clear hK K
      try simp only [Act.put,y1,y2,y3,y4,y5,y6]
      have HK1:=hid (KR.one_ NAx.out (S':=fun b => w.heap.size < b) (fun _ h _ => h) (hz) 25)
      have hbx : Below w4.heap.size w4 (w4.alloc (.cells #[.int .i64 a.op,.string ⟨a.nm.toArray⟩,.int .i64 a.n,.string ⟨a.t.toArray⟩,.slice Ax a.l.length cx] 25)):=bl _
      replace HO:=hid ((hbx.cell (World.block_lt_of_cell? _ _ HO.out)).trans HO.out)
      replace NAx:=hid (NAx.out.below hbx)
      have hx:=gw3 HP.out HC.out HZ.out hbx
      clear HP HC HZ hz hgl hbx
      obtain ⟨HP,HC,HZ,hz,hgl⟩:=hx
      have mm4 : True:=trivial
      rotate_left
    all_goals first
     | fail_if_success clear mm3
     |
      clear mm3
      refine wpAny_ready (rs:=[4]) (by kernel_rfl) (by simp) ?_
      refine AllReady.cons rfl (fun K hK => ?_) AllReady.nil
      go_simp
      refine hK _ _ ?_
      clear hK K
      try simp only [Act.put,y1,y2,y3,y4,y5,y6]
      have HK1:=hid (KR.one_ NAx.out (S':=fun b => w.heap.size < b) (fun _ h _ => h) (hz) 25)
      have hbx : Below w4.heap.size w4 (w4.alloc (.cells #[.int .i64 a.op,.string ⟨a.nm.toArray⟩,.int .i64 a.n,.string ⟨a.t.toArray⟩,.slice Ax a.l.length cx] 25)):=bl _
      replace HO:=hid ((hbx.cell (World.block_lt_of_cell? _ _ HO.out)).trans HO.out)
      replace NAx:=hid (NAx.out.below hbx)
      have hx:=gw3 HP.out HC.out HZ.out hbx
      clear HP HC HZ hz hgl hbx
      obtain ⟨HP,HC,HZ,hz,hgl⟩:=hx
      have mm5 : True:=trivial
      rotate_left
    all_goals first
     | fail_if_success clear mm4
     |
      clear mm4
      refine wpAny_ready (rs:=[1]) (by kernel_rfl) (by simp) ?_
      refine AllReady.cons rfl (fun K hK => ?_) AllReady.nil
      have ho:=HO.out
      go_simp
      refine hK _ _ ?_
      clear hK K
      try simp only [Act.put,y1,y2,y3,y4,y5,y6]
      have mm5 : True:=trivial
      rotate_left
    all_goals first
     | fail_if_success clear mm5
     |
      clear mm5
      refine wpAny_ready (rs:=[5]) (by kernel_rfl) (by simp) ?_
      refine AllReady.cons rfl (fun K hK => ?_) AllReady.nil
      go_simp
      refine hK _ _ ?_
      clear hK K
      try simp only [Act.put,y1,y2,y3,y4,y5,y6]
      have mm6 : True:=trivial
      rotate_left
    all_goals first
     | fail_if_success clear mm6
     |
      clear mm6
      refine wpAny_ready (rs:=[6]) (by kernel_rfl) (by simp) ?_
      refine AllReady.cons rfl (fun K hK => ?_) AllReady.nil
      have z0:=HZ.out.c0
      have f0:=HZ.out.free 0
      have z1:=HZ.out.c1
      have f1:=HZ.out.free 1
      have z2:=HZ.out.c2
      have f2:=HZ.out.free 2
      have z3:=HZ.out.c3
      have f3:=HZ.out.free 3
      have z4:=HZ.out.c4
      have f4:=HZ.out.free 4
      go_simp
      refine hK _ _ ?_
      clear hK K
      try simp only [Act.put,y1,y2,y3,y4,y5,y6]
      refine wpAny_done (by kernel_rfl) ?_ _
      rotate_left
    all_goals
     go_wp2_with fail
     have NAY:=na_nd (op:=9) (s:=[]) (n:=0) (t:=t.t) (l:=[a]) (by omega) (by omega) (by simp) htt (by simp) HK1.out
     exact bodyPost_ret (v:=ndV 9 [] 0 t.t (some ⟨w4.heap.size,0,none⟩) 1 1) (by simp [results,Tryz.results252,go_sem,ndV,z0,z1,z2,z3,z4,f0,f1,f2,f3,f4]) rfl (fin_st HP.out HC.out hlt NAY)
  ·
   clear hE hE1 hf2 H h1
   have HP : Hid (Pt (w.alloc zNode) g L (t :: u :: z)):=h.below (bl _)
   have HC : Hid (Ch g w (w.alloc zNode)):=Ch.of_below (bl _)
   have HZ : Hid (Nb (w.alloc zNode) w.heap.size 0 [] 0 [] none 0 0):=Nb.zero
   have hz:=HZ.out.lt
   have hgl:=HP.out.lt
   clear h
   go_enter Tryz.func252,Tryz.ntmps252
   go_wp2_with fail
   refine qt3 (CN1.out _ HP.out) HP.out HC.out HZ.out ?_
   clear HP HC HZ hz hgl
   intro w1 HP HC HZ hz hgl hc
   clear hc
   have hbx : Below w1.heap.size w1 (w1.alloc (.cells #[.int .i64 t.k,.int .i64 t.at_,.string ⟨t.t.toArray⟩,.int .i64 t.n] 59)):=bl _
   have hgt : g < w1.heap.size:=hgl
   replace HP:=hid (HP.out.below hbx)
   replace HC:=hid (HC.out.trans (Ch.of_below hbx))
   replace HZ:=hid (HZ.out.below hbx)
   replace hz:=HZ.out.lt
   replace hgl:=HP.out.lt
   clear hbx
   have HO : Hid ((w1.alloc (.cells #[.int .i64 t.k,.int .i64 t.at_,.string ⟨t.t.toArray⟩,.int .i64 t.n] 59)).cell? ⟨w1.heap.size,2,none⟩ = some (.string ⟨t.t.toArray⟩)):=by show _ = _;rw [World.cell?_alloc_mark];rfl
   go_wp2_with fail
   refine (require_yes g _).mono ?_
   rintro e w2 ⟨rfl,hw⟩
   rw [hw] at HP HC HO HZ hz hgl
   clear hw
   have hn2 : L.length - (t :: (u :: z)).length <= 20000:=by have:=HP.out.len;omega
   obtain ⟨n0,hn⟩ : ∃ n0,n0 = L.length - (t :: (u :: z)).length:=⟨_,rfl⟩
   rw [<- hn] at hn2
   have HN0:=hid hn
   clear hn
   have hcp:=HP.out.cell1' HN0.out
   have hfp:=HP.out.free 1
   go_wp2_with fail
   have hc : Ch g w2 (w2.setCell ⟨g,1,none⟩ (.int .i64 ((n0 : Int) + 1))):=Ch.set _ _ _ _
   replace HP:=hid (HP.out.step' hk0.out HN0.out)
   replace HC:=hid (HC.out.trans hc)
   replace HO:=hid (Ch.cell hc HO.out (show w1.heap.size ≠ g by omega))
   replace HZ:=hid (HZ.out.ch hc (by omega))
   replace hz:=HZ.out.lt
   replace hgl:=HP.out.lt
   clear hc hcp hfp HN0
   refine (take_no g L u z ⟨#[58]⟩ _ HP.out h2).mono ?_
   intro e wz hp
   obtain ⟨rfl,hc⟩:=hp
   go_wp2_with fail
   exact ⟨rfl,rfl,HC.out.trans hc⟩
 ·
  obtain rfl:=Sy.inv_ret hE1
  have hb4 : (t.k == 4) = false:=by simpa using h1
  clear hE hE1 H h1
  have HP : Hid (Pt (w.alloc zNode) g L (t :: s)):=h.below (bl _)
  have HC : Hid (Ch g w (w.alloc zNode)):=Ch.of_below (bl _)
  have HZ : Hid (Nb (w.alloc zNode) w.heap.size 0 [] 0 [] none 0 0):=Nb.zero
  have hz:=HZ.out.lt
  have hgl:=HP.out.lt
  clear h
  go_enter Tryz.func252,Tryz.ntmps252
  go_wp2_with fail
  refine qt3 (CN1.out _ HP.out) HP.out HC.out HZ.out ?_
  clear HP HC HZ hz hgl
  intro w1 HP HC HZ hz hgl hc
  clear hc
  have hbx : Below w1.heap.size w1 (w1.alloc (.cells #[.int .i64 t.k,.int .i64 t.at_,.string ⟨t.t.toArray⟩,.int .i64 t.n] 59)):=bl _
  have hgt : g < w1.heap.size:=hgl
  replace HP:=hid (HP.out.below hbx)
  replace HC:=hid (HC.out.trans (Ch.of_below hbx))
  replace HZ:=hid (HZ.out.below hbx)
  replace hz:=HZ.out.lt
  replace hgl:=HP.out.lt
  clear hbx
  go_wp2_with fail
  refine (require_no g L t s _ HP.out).mono ?_
  rintro e wz ⟨rfl,hb⟩
  go_wp2_with fail
  exact ⟨rfl,rfl,HC.out.trans (Ch.of_below hb)⟩
end Go.Proofs.YtgeppafcemeidaaGreatDoor
namespace Go.Proofs.YtgeppafcemeidaaGreatDoor
open Go.RowKit
open Sy (N NT R Ev Run Pg fx hd body opnd inf RunN EvN nd nmd)
open Tk (T)
open Sy (Fin TB)
attribute [local go_sem ↓] Tryz.field0 Tryz.field1
theorem mention_call (g : Nat) (L : List T) (t u : T) (z : List T) (h2 : fx (u :: z) = [40]) (r : R) (hC : ∀ W,Pt W g L (t :: u :: z) -> Calls Tryz.prog 222 #[.pointer (some ⟨g,0,none⟩),.int .i64 10] W (Post g L W r)) (w : World) (h : Pt w g L (t :: u :: z)) : Calls Tryz.prog 251 #[.pointer (some ⟨g,0,none⟩)] w (Post g L w r):=by
 have hlt:=h.lt
 have htt:=h.fin.tb.2.2.1
 have HCC:=hid hC
 clear hC
 cases r with
 | bad q =>
  obtain ⟨b,o,c,n,hn1,hn2,hS⟩:=(h.below (bl zNode)).peek
  have hbx : (fx (u :: z) == [40]) = true:=lit_eq h2
  have C2:=hid (fun W => fixedText_any u z W)
  generalize fx (u :: z) = x at *
  have HF:=hid hS
  have HB : Hid (Below (w.alloc zNode).heap.size (w.alloc zNode) (w.alloc zNode).drew):=(Below.refl _ _).drew
  have HS:=hid (hS _ HB.out)
  have hi0 : (0 : Int) <= (n : Int) + 1:=by omega
  have hi1 : (n : Int) + 1 < (L.length : Int):=by omega
  have hi2 : ((n : Int) + 1).toNat = n + 1:=by omega
  have hi3 : IntKind.i64.wrap ((n : Int) + 1) = (n : Int) + 1:=wrap_small _ (by omega) (by omega)
  clear hS hn1 hn2 h2
  have HP : Hid (Pt (w.alloc zNode) g L (t :: u :: z)):=h.below (bl _)
  have HC : Hid (Ch g w (w.alloc zNode)):=Ch.of_below (bl _)
  have HZ : Hid (Nb (w.alloc zNode) w.heap.size 0 [] 0 [] none 0 0):=Nb.zero
  have hz:=HZ.out.lt
  have hgl:=HP.out.lt
  clear h
  go_enter Tryz.func251,Tryz.ntmps251
  go_wp2_with fail
  go_region_held3 (fun W => W.cell? ⟨g,0,none⟩ = some (.slice (some ⟨b,o,none⟩) L.length c) /\ W.cell? ⟨g,1,none⟩ = some (.int .i64 (n : Int)) /\ W.cell? ⟨b,o + (n + 1) * 4,none⟩ = some (.int .i64 u.k) /\ W.cell? ⟨b,o + (n + 1) * 4 + 1,none⟩ = some (.int .i64 u.at_) /\ W.cell? ⟨b,o + (n + 1) * 4 + 2,none⟩ = some (.string ⟨u.t.toArray⟩) /\ W.cell? ⟨b,o + (n + 1) * 4 + 3,none⟩ = some (.int .i64 u.n)) (exact HS.out)
   (first
    | (go_at_call 170;(refine (C2.out _).mono ?_);rintro e wy ⟨rfl,hby⟩;have HB:=hid (HB.out.trans (hby.mono HB.out.size));have HS:=hid (HF.out _ HB.out);clear hby))
  clear hi0 hi1 hi2 hi3 HS HF
  have hbz:=HB.out
  replace HP:=hid (HP.out.below hbz)
  replace HC:=hid (HC.out.trans (Ch.of_below hbz))
  replace HZ:=hid (HZ.out.below hbz)
  replace hz:=HZ.out.lt
  replace hgl:=HP.out.lt
  clear hbz HB
  go_wp2_with fail
  refine (HCC.out _ HP.out).mono ?_
  intro e wz hp
  obtain ⟨rfl,hc⟩:=hp
  go_wp2_with fail
  exact ⟨rfl,rfl,HC.out.trans hc⟩
 | ok a q =>
  obtain ⟨b,o,c,n,hn1,hn2,hS⟩:=(h.below (bl zNode)).peek
  have hbx : (fx (u :: z) == [40]) = true:=lit_eq h2
  have C2:=hid (fun W => fixedText_any u z W)
  generalize fx (u :: z) = x at *
  have HF:=hid hS
  have HB : Hid (Below (w.alloc zNode).heap.size (w.alloc zNode) (w.alloc zNode).drew):=(Below.refl _ _).drew
  have HS:=hid (hS _ HB.out)
  have hi0 : (0 : Int) <= (n : Int) + 1:=by omega
  have hi1 : (n : Int) + 1 < (L.length : Int):=by omega
  have hi2 : ((n : Int) + 1).toNat = n + 1:=by omega
  have hi3 : IntKind.i64.wrap ((n : Int) + 1) = (n : Int) + 1:=wrap_small _ (by omega) (by omega)
  clear hS hn1 hn2 h2
  have HP : Hid (Pt (w.alloc zNode) g L (t :: u :: z)):=h.below (bl _)
  have HC : Hid (Ch g w (w.alloc zNode)):=Ch.of_below (bl _)
  have HZ : Hid (Nb (w.alloc zNode) w.heap.size 0 [] 0 [] none 0 0):=Nb.zero
  have hz:=HZ.out.lt
  have hgl:=HP.out.lt
  clear h
  go_enter Tryz.func251,Tryz.ntmps251
  go_wp2_with fail
  go_region_held3 (fun W => W.cell? ⟨g,0,none⟩ = some (.slice (some ⟨b,o,none⟩) L.length c) /\ W.cell? ⟨g,1,none⟩ = some (.int .i64 (n : Int)) /\ W.cell? ⟨b,o + (n + 1) * 4,none⟩ = some (.int .i64 u.k) /\ W.cell? ⟨b,o + (n + 1) * 4 + 1,none⟩ = some (.int .i64 u.at_) /\ W.cell? ⟨b,o + (n + 1) * 4 + 2,none⟩ = some (.string ⟨u.t.toArray⟩) /\ W.cell? ⟨b,o + (n + 1) * 4 + 3,none⟩ = some (.int .i64 u.n)) (exact HS.out)
   (first
    | (go_at_call 170;(refine (C2.out _).mono ?_);rintro e wy ⟨rfl,hby⟩;have HB:=hid (HB.out.trans (hby.mono HB.out.size));have HS:=hid (HF.out _ HB.out);clear hby))
  clear hi0 hi1 hi2 hi3 HS HF
  have hbz:=HB.out
  replace HP:=hid (HP.out.below hbz)
  replace HC:=hid (HC.out.trans (Ch.of_below hbz))
  replace HZ:=hid (HZ.out.below hbz)
  replace hz:=HZ.out.lt
  replace hgl:=HP.out.lt
  clear hbz HB
  go_wp2_with fail
  refine ok3 (S':=fun b => w.heap.size < b) (HCC.out _ HP.out) HC.out HZ.out hlt (fun b hb => Nat.lt_of_lt_of_le hz hb) ?_
  clear HP HC HZ hz hgl
  intro Ax cx w1 NAx HP HC HZ hz hgl hc
  clear hc
  unfold ndV
  have z0:=HZ.out.c0
  have f0:=HZ.out.free 0
  have z1:=HZ.out.c1
  have f1:=HZ.out.free 1
  have z2:=HZ.out.c2
  have f2:=HZ.out.free 2
  have z3:=HZ.out.c3
  have f3:=HZ.out.free 3
  have z4:=HZ.out.c4
  have f4:=HZ.out.free 4
  go_wp2_with fail
  exact bodyPost_ret (v:=ndV a.op a.nm a.n a.t Ax a.l.length cx) (by simp [results,Tryz.results251,go_sem,ndV,z0,z1,z2,z3,z4,f0,f1,f2,f3,f4]) rfl (fin_st HP.out HC.out hlt NAx.out)
theorem mention_name (g : Nat) (L : List T) (t u : T) (z : List T) (h2 : fx (u :: z) ≠ [40]) (h1 : t.k = 1) (w : World) (h : Pt w g L (t :: u :: z)) : Calls Tryz.prog 251 #[.pointer (some ⟨g,0,none⟩)] w (Post g L w (.ok (nmd 6 t.t []) (u :: z))):=by
 have hlt:=h.lt
 have htt:=h.fin.tb.2.2.1
 obtain ⟨b,o,c,n,hn1,hn2,hS⟩:=(h.below (bl zNode)).peek
 have hbx : (fx (u :: z) == [40]) = false:=lit_ne h2
 have C2:=hid (fun W => fixedText_any u z W)
 generalize fx (u :: z) = x at *
 have HF:=hid hS
 have HB : Hid (Below (w.alloc zNode).heap.size (w.alloc zNode) (w.alloc zNode).drew):=(Below.refl _ _).drew
 have HS:=hid (hS _ HB.out)
 have hi0 : (0 : Int) <= (n : Int) + 1:=by omega
 have hi1 : (n : Int) + 1 < (L.length : Int):=by omega
 have hi2 : ((n : Int) + 1).toNat = n + 1:=by omega
 have hi3 : IntKind.i64.wrap ((n : Int) + 1) = (n : Int) + 1:=wrap_small _ (by omega) (by omega)
 clear hS hn1 hn2 h2
 have HP : Hid (Pt (w.alloc zNode) g L (t :: u :: z)):=h.below (bl _)
 have HC : Hid (Ch g w (w.alloc zNode)):=Ch.of_below (bl _)
 have HZ : Hid (Nb (w.alloc zNode) w.heap.size 0 [] 0 [] none 0 0):=Nb.zero
 have hz:=HZ.out.lt
 have hgl:=HP.out.lt
 clear h
 go_enter Tryz.func251,Tryz.ntmps251
 go_wp2_with fail
 go_region_held3 (fun W => W.cell? ⟨g,0,none⟩ = some (.slice (some ⟨b,o,none⟩) L.length c) /\ W.cell? ⟨g,1,none⟩ = some (.int .i64 (n : Int)) /\ W.cell? ⟨b,o + (n + 1) * 4,none⟩ = some (.int .i64 u.k) /\ W.cell? ⟨b,o + (n + 1) * 4 + 1,none⟩ = some (.int .i64 u.at_) /\ W.cell? ⟨b,o + (n + 1) * 4 + 2,none⟩ = some (.string ⟨u.t.toArray⟩) /\ W.cell? ⟨b,o + (n + 1) * 4 + 3,none⟩ = some (.int .i64 u.n)) (exact HS.out)
  (first
   | (go_at_call 170;(refine (C2.out _).mono ?_);rintro e wy ⟨rfl,hby⟩;have HB:=hid (HB.out.trans (hby.mono HB.out.size));have HS:=hid (HF.out _ HB.out);clear hby))
 clear hi0 hi1 hi2 hi3 HS HF
 have hbz:=HB.out
 replace HP:=hid (HP.out.below hbz)
 replace HC:=hid (HC.out.trans (Ch.of_below hbz))
 replace HZ:=hid (HZ.out.below hbz)
 replace hz:=HZ.out.lt
 replace hgl:=HP.out.lt
 clear hbz HB
 go_wp2_with fail
 refine mv3 (name_yes g L t (u :: z) _ HP.out h1) HC.out HZ.out hlt ?_
 clear HP HC HZ hz hgl
 intro w1 HP HC HZ hz hgl hc
 clear hc
 go_wp2_with fail
 refine (named_any 6 t.t none 0 0 _).mono ?_
 rintro e w2 ⟨rfl,hb⟩
 have hk:=(KR.nil_ (w:=w2) (S:=fun b => w.heap.size < b))
 have hB : Below w1.heap.size w1 w2:=hb
 have hx:=gw3 HP.out HC.out HZ.out hB
 clear HP HC HZ hz hgl hB
 obtain ⟨HP,HC,HZ,hz,hgl⟩:=hx
 have NAY:=hid (na_nd (op:=6) (s:=t.t) (n:=0) (t:=[]) (l:=[]) (by first | omega | (constructor <;> omega) | assumption) (by omega) (by first | assumption | simp | omega) (by first | assumption | simp | omega) (by simp) hk)
 clear hk hb
 unfold ndV
 have z0:=HZ.out.c0
 have f0:=HZ.out.free 0
 have z1:=HZ.out.c1
 have f1:=HZ.out.free 1
 have z2:=HZ.out.c2
 have f2:=HZ.out.free 2
 have z3:=HZ.out.c3
 have f3:=HZ.out.free 3
 have z4:=HZ.out.c4
 have f4:=HZ.out.free 4
 go_wp2_with fail
 exact bodyPost_ret (v:=ndV 6 t.t 0 [] none 0 0) (by simp [results,Tryz.results251,go_sem,ndV,z0,z1,z2,z3,z4,f0,f1,f2,f3,f4]) rfl (fin_st HP.out HC.out hlt NAY.out)
theorem prim_c (n : Nat) (H : AllX n) (l : List T) (r : R) (hE : EvN n .prim l r) : CF 248 l r:=by
 intro g L w h
 have hlt:=h.lt
 obtain ⟨t,s,rfl⟩:=h.fin.ex
 have CN1:=hid (fun W (hW : Pt W g L (t :: s)) => next_any g L t s W hW)
 unfold tkV at CN1
 rcases Sy.inv_if (show RunN n (if t.k = 1 then (if fx s = [40] then .call (.fcall 10) (t :: s) .ret else .ret (.ok (nmd 6 t.t []) s)) else if fx (t :: s) = [91] then Sy.cl (.elems [93] 0) s fun k r => .ret (.ok (nd 7 k.l) r) else if fx (t :: s) = [123] then Sy.cl (.elems [125] 1) s fun k r => .ret (.ok (nd 8 k.l) r) else if fx (t :: s) = [40] then Sy.cl (.chain 1) s fun a r => Sy.tk [41] r fun r => .ret (.ok a r) else .call .lit (t :: s) .ret) r from hE) with ⟨h1,hE1⟩ | ⟨h1,hE1⟩
 ·
  have hf2:=h.fin.tail (show t.k ≠ 0 by omega)
  obtain ⟨u,z,rfl⟩:=hf2.ex
  have hb1 : (t.k == 1) = true:=by simpa using h1
  have HM : Hid (∀ W,Pt W g L (t :: u :: z) -> Calls Tryz.prog 251 #[.pointer (some ⟨g,0,none⟩)] W (Post g L W r)):=by
   rcases Sy.inv_if hE1 with ⟨h2,hE2⟩ | ⟨h2,hE2⟩
   ·
    obtain ⟨m,hm,hF⟩:=Sy.inv_tail hE2
    exact fun W hW => mention_call g L t u z h2 r (fun W hW => H.fcall 10 (by decide) (by decide) m (by omega) _ _ hF g L W hW) W hW
   ·
    obtain rfl:=Sy.inv_ret hE2
    exact fun W hW => mention_name g L t u z h2 h1 W hW
  clear hE hE1 hf2 H h1
  cases r with
  | bad q =>
   have HP : Hid (Pt (w.alloc zNode) g L (t :: u :: z)):=h.below (bl _)
   have HC : Hid (Ch g w (w.alloc zNode)):=Ch.of_below (bl _)
   have HZ : Hid (Nb (w.alloc zNode) w.heap.size 0 [] 0 [] none 0 0):=Nb.zero
   have hz:=HZ.out.lt
   have hgl:=HP.out.lt
   clear h
   go_enter Tryz.func248,Tryz.ntmps248
   go_wp2_with fail
   refine qt3 (CN1.out _ HP.out) HP.out HC.out HZ.out ?_
   clear HP HC HZ hz hgl
   intro w1 HP HC HZ hz hgl hc
   clear hc
   go_wp2_with fail
   refine (HM.out _ HP.out).mono ?_
   intro e wz hp
   obtain ⟨rfl,hc⟩:=hp
   go_wp2_with fail
   exact ⟨rfl,rfl,HC.out.trans hc⟩
  | ok a q =>
   have HP : Hid (Pt (w.alloc zNode) g L (t :: u :: z)):=h.below (bl _)
   have HC : Hid (Ch g w (w.alloc zNode)):=Ch.of_below (bl _)
   have HZ : Hid (Nb (w.alloc zNode) w.heap.size 0 [] 0 [] none 0 0):=Nb.zero
   have hz:=HZ.out.lt
   have hgl:=HP.out.lt
   clear h
   go_enter Tryz.func248,Tryz.ntmps248
   go_wp2_with fail
   refine qt3 (CN1.out _ HP.out) HP.out HC.out HZ.out ?_
   clear HP HC HZ hz hgl
   intro w1 HP HC HZ hz hgl hc
   clear hc
   go_wp2_with fail
   refine ok3 (S':=fun b => w.heap.size < b) (HM.out _ HP.out) HC.out HZ.out hlt (fun b hb => Nat.lt_of_lt_of_le hz hb) ?_
   clear HP HC HZ hz hgl
   intro Ax cx w2 NAx HP HC HZ hz hgl hc
   clear hc
   unfold ndV
   have z0:=HZ.out.c0
   have f0:=HZ.out.free 0
   have z1:=HZ.out.c1
   have f1:=HZ.out.free 1
   have z2:=HZ.out.c2
   have f2:=HZ.out.free 2
   have z3:=HZ.out.c3
   have f3:=HZ.out.free 3
   have z4:=HZ.out.c4
   have f4:=HZ.out.free 4
   go_wp2_with fail
   exact bodyPost_ret (v:=ndV a.op a.nm a.n a.t Ax a.l.length cx) (by simp [results,Tryz.results248,go_sem,ndV,z0,z1,z2,z3,z4,f0,f1,f2,f3,f4]) rfl (fin_st HP.out HC.out hlt NAx.out)
 have hb1 : (t.k == 1) = false:=by simpa using h1
 rcases Sy.inv_if hE1 with ⟨h2,hE2⟩ | ⟨h2,hE2⟩
 ·
  obtain ⟨m,hm,hF⟩:=Sy.inv_cl hE2
  rcases hF with ⟨q,hF,rfl⟩ | ⟨a,q,hF,hE9⟩
  all_goals have C:=hid (fun W (hW : Pt W g L s) => elemsX n H.expr m (by omega) ⟨#[93]⟩ (by decide) (by decide) _ _ hF g L W hW)
  all_goals clear hE hE1 hF hm H h1
  ·
   have hmf : ∀ (fn : Fn) (first cap : Array Value) (w : World),(Instr.makeFunc fn first cap).run Tryz.prog w = .ok (.func fn first cap) w:=fun _ _ _ _ => rfl
   have HP : Hid (Pt (w.alloc zNode) g L (t :: s)):=h.below (bl _)
   have HC : Hid (Ch g w (w.alloc zNode)):=Ch.of_below (bl _)
   have HZ : Hid (Nb (w.alloc zNode) w.heap.size 0 [] 0 [] none 0 0):=Nb.zero
   have hz:=HZ.out.lt
   have hgl:=HP.out.lt
   clear h
   go_enter Tryz.func248,Tryz.ntmps248
   go_wp2_with fail
   refine qt3 (CN1.out _ HP.out) HP.out HC.out HZ.out ?_
   clear HP HC HZ hz hgl
   intro w1 HP HC HZ hz hgl hc
   clear hc
   go_wp2_with fail
   refine mv3 (skip_yes g L t s ⟨#[91]⟩ _ HP.out h2 (by decide)) HC.out HZ.out hlt ?_
   clear HP HC HZ hz hgl
   intro w2 HP HC HZ hz hgl hc
   clear hc
   go_wp2_with fail
   refine (C.out _ HP.out).mono ?_
   intro e wz hp
   obtain ⟨rfl,hc⟩:=hp
   go_wp2_with fail
   exact ⟨rfl,rfl,HC.out.trans hc⟩
  ·
   obtain rfl:=Sy.inv_ret hE9
   clear hE9
   have hmf : ∀ (fn : Fn) (first cap : Array Value) (w : World),(Instr.makeFunc fn first cap).run Tryz.prog w = .ok (.func fn first cap) w:=fun _ _ _ _ => rfl
   have HP : Hid (Pt (w.alloc zNode) g L (t :: s)):=h.below (bl _)
   have HC : Hid (Ch g w (w.alloc zNode)):=Ch.of_below (bl _)
   have HZ : Hid (Nb (w.alloc zNode) w.heap.size 0 [] 0 [] none 0 0):=Nb.zero
   have hz:=HZ.out.lt
   have hgl:=HP.out.lt
   clear h
   go_enter Tryz.func248,Tryz.ntmps248
   go_wp2_with fail
   refine qt3 (CN1.out _ HP.out) HP.out HC.out HZ.out ?_
   clear HP HC HZ hz hgl
   intro w1 HP HC HZ hz hgl hc
   clear hc
   go_wp2_with fail
   refine mv3 (skip_yes g L t s ⟨#[91]⟩ _ HP.out h2 (by decide)) HC.out HZ.out hlt ?_
   clear HP HC HZ hz hgl
   intro w2 HP HC HZ hz hgl hc
   clear hc
   go_wp2_with fail
   have hzk:=hz
   refine (C.out _ HP.out).mono ?_
   intro e w3 hp
   obtain ⟨Ax,cx,rfl,hok,hp,hc,hll⟩:=hp
   have HKx:=hid hok
   replace HP:=hid hp
   replace HC:=hid (HC.out.trans hc)
   replace HZ:=hid (HZ.out.ch hc (by omega))
   replace hz:=HZ.out.lt
   replace hgl:=HP.out.lt
   clear hc hp hok
   go_wp2_with fail
   refine (node_any 7 Ax a.l.length cx _).mono ?_
   rintro e w4 ⟨rfl,hb⟩
   have hk:=((HKx.out.kr).more (S':=fun b => w.heap.size < b) (fun b hb _ => Nat.lt_of_lt_of_le hzk hb)).below hb
   have hB : Below w3.heap.size w3 w4:=hb
   replace HP:=hid (HP.out.below hB)
   replace HC:=hid (HC.out.trans (Ch.of_below hB))
   replace HZ:=hid (HZ.out.below hB)
   replace hz:=HZ.out.lt
   replace hgl:=HP.out.lt
   have NAY:=hid (na_nd (op:=7) (s:=[]) (n:=0) (t:=[]) (l:=a.l) (by first | omega | (constructor <;> omega) | assumption) (by omega) (by first | assumption | simp | omega) (by simp) (by omega) hk)
   clear hk hb hB
   unfold ndV
   have z0:=HZ.out.c0
   have f0:=HZ.out.free 0
   have z1:=HZ.out.c1
   have f1:=HZ.out.free 1
   have z2:=HZ.out.c2
   have f2:=HZ.out.free 2
   have z3:=HZ.out.c3
   have f3:=HZ.out.free 3
   have z4:=HZ.out.c4
   have f4:=HZ.out.free 4
   go_wp2_with fail
   exact bodyPost_ret (v:=ndV 7 [] 0 [] Ax a.l.length cx) (by simp [results,Tryz.results248,go_sem,ndV,z0,z1,z2,z3,z4,f0,f1,f2,f3,f4]) rfl (fin_st HP.out HC.out hlt NAY.out)
 rcases Sy.inv_if hE2 with ⟨h3,hE3⟩ | ⟨h3,hE3⟩
 ·
  obtain ⟨m,hm,hF⟩:=Sy.inv_cl hE3
  rcases hF with ⟨q,hF,rfl⟩ | ⟨a,q,hF,hE9⟩
  all_goals have C:=hid (fun W (hW : Pt W g L s) => elemsY n H.pair m (by omega) ⟨#[125]⟩ (by decide) (by decide) _ _ hF g L W hW)
  all_goals clear hE hE1 hF hm H h1
  ·
   have hmf : ∀ (fn : Fn) (first cap : Array Value) (w : World),(Instr.makeFunc fn first cap).run Tryz.prog w = .ok (.func fn first cap) w:=fun _ _ _ _ => rfl
   have HP : Hid (Pt (w.alloc zNode) g L (t :: s)):=h.below (bl _)
   have HC : Hid (Ch g w (w.alloc zNode)):=Ch.of_below (bl _)
   have HZ : Hid (Nb (w.alloc zNode) w.heap.size 0 [] 0 [] none 0 0):=Nb.zero
   have hz:=HZ.out.lt
   have hgl:=HP.out.lt
   clear h
   go_enter Tryz.func248,Tryz.ntmps248
   go_wp2_with fail
   refine qt3 (CN1.out _ HP.out) HP.out HC.out HZ.out ?_
   clear HP HC HZ hz hgl
   intro w1 HP HC HZ hz hgl hc
   clear hc
   go_wp2_with fail
   refine mv3 (skip_no g L t s ⟨#[91]⟩ _ HP.out h2) HC.out HZ.out hlt ?_
   clear HP HC HZ hz hgl
   intro w2 HP HC HZ hz hgl hc
   clear hc
   go_wp2_with fail
   refine mv3 (skip_yes g L t s ⟨#[123]⟩ _ HP.out h3 (by decide)) HC.out HZ.out hlt ?_
   clear HP HC HZ hz hgl
   intro w3 HP HC HZ hz hgl hc
   clear hc
   go_wp2_with fail
   refine (C.out _ HP.out).mono ?_
   intro e wz hp
   obtain ⟨rfl,hc⟩:=hp
   go_wp2_with fail
   exact ⟨rfl,rfl,HC.out.trans hc⟩
  ·
   obtain rfl:=Sy.inv_ret hE9
   clear hE9
   have hmf : ∀ (fn : Fn) (first cap : Array Value) (w : World),(Instr.makeFunc fn first cap).run Tryz.prog w = .ok (.func fn first cap) w:=fun _ _ _ _ => rfl
   have HP : Hid (Pt (w.alloc zNode) g L (t :: s)):=h.below (bl _)
   have HC : Hid (Ch g w (w.alloc zNode)):=Ch.of_below (bl _)
   have HZ : Hid (Nb (w.alloc zNode) w.heap.size 0 [] 0 [] none 0 0):=Nb.zero
   have hz:=HZ.out.lt
   have hgl:=HP.out.lt
   clear h
   go_enter Tryz.func248,Tryz.ntmps248
   go_wp2_with fail
   refine qt3 (CN1.out _ HP.out) HP.out HC.out HZ.out ?_
   clear HP HC HZ hz hgl
   intro w1 HP HC HZ hz hgl hc
   clear hc
   go_wp2_with fail
   refine mv3 (skip_no g L t s ⟨#[91]⟩ _ HP.out h2) HC.out HZ.out hlt ?_
   clear HP HC HZ hz hgl
   intro w2 HP HC HZ hz hgl hc
   clear hc
   go_wp2_with fail
   refine mv3 (skip_yes g L t s ⟨#[123]⟩ _ HP.out h3 (by decide)) HC.out HZ.out hlt ?_
   clear HP HC HZ hz hgl
   intro w3 HP HC HZ hz hgl hc
   clear hc
   go_wp2_with fail
   have hzk:=hz
   refine (C.out _ HP.out).mono ?_
   intro e w4 hp
   obtain ⟨Ax,cx,rfl,hok,hp,hc,hll⟩:=hp
   have HKx:=hid hok
   replace HP:=hid hp
   replace HC:=hid (HC.out.trans hc)
   replace HZ:=hid (HZ.out.ch hc (by omega))
   replace hz:=HZ.out.lt
   replace hgl:=HP.out.lt
   clear hc hp hok
   go_wp2_with fail
   refine (node_any 8 Ax a.l.length cx _).mono ?_
   rintro e w5 ⟨rfl,hb⟩
   have hk:=((HKx.out.kr).more (S':=fun b => w.heap.size < b) (fun b hb _ => Nat.lt_of_lt_of_le hzk hb)).below hb
   have hB : Below w4.heap.size w4 w5:=hb
   replace HP:=hid (HP.out.below hB)
   replace HC:=hid (HC.out.trans (Ch.of_below hB))
   replace HZ:=hid (HZ.out.below hB)
   replace hz:=HZ.out.lt
   replace hgl:=HP.out.lt
   have NAY:=hid (na_nd (op:=8) (s:=[]) (n:=0) (t:=[]) (l:=a.l) (by first | omega | (constructor <;> omega) | assumption) (by omega) (by first | assumption | simp | omega) (by simp) (by omega) hk)
   clear hk hb hB
   unfold ndV
   have z0:=HZ.out.c0
   have f0:=HZ.out.free 0
   have z1:=HZ.out.c1
   have f1:=HZ.out.free 1
   have z2:=HZ.out.c2
   have f2:=HZ.out.free 2
   have z3:=HZ.out.c3
   have f3:=HZ.out.free 3
   have z4:=HZ.out.c4
   have f4:=HZ.out.free 4
   go_wp2_with fail
   exact bodyPost_ret (v:=ndV 8 [] 0 [] Ax a.l.length cx) (by simp [results,Tryz.results248,go_sem,ndV,z0,z1,z2,z3,z4,f0,f1,f2,f3,f4]) rfl (fin_st HP.out HC.out hlt NAY.out)
 rcases Sy.inv_if hE3 with ⟨h4,hE4⟩ | ⟨h4,hE4⟩
 ·
  obtain ⟨m,hm,hF⟩:=Sy.inv_cl hE4
  rcases hF with ⟨q,hF,rfl⟩ | ⟨a,q,hF,hE9⟩
  all_goals have C:=hid (fun W (hW : Pt W g L s) => H.expr m (by omega) _ _ hF g L W hW)
  all_goals clear hE hE1 hE2 hE3 hE4 hF hm H h1
  ·
   have HP : Hid (Pt (w.alloc zNode) g L (t :: s)):=h.below (bl _)
   have HC : Hid (Ch g w (w.alloc zNode)):=Ch.of_below (bl _)
   have HZ : Hid (Nb (w.alloc zNode) w.heap.size 0 [] 0 [] none 0 0):=Nb.zero
   have hz:=HZ.out.lt
   have hgl:=HP.out.lt
   clear h
   go_enter Tryz.func248,Tryz.ntmps248
   go_wp2_with fail
   refine qt3 (CN1.out _ HP.out) HP.out HC.out HZ.out ?_
   clear HP HC HZ hz hgl
   intro w1 HP HC HZ hz hgl hc
   clear hc
   go_wp2_with fail
   refine mv3 (skip_no g L t s ⟨#[91]⟩ _ HP.out h2) HC.out HZ.out hlt ?_
   clear HP HC HZ hz hgl
   intro w2 HP HC HZ hz hgl hc
   clear hc
   go_wp2_with fail
   refine mv3 (skip_no g L t s ⟨#[123]⟩ _ HP.out h3) HC.out HZ.out hlt ?_
   clear HP HC HZ hz hgl
   intro w3 HP HC HZ hz hgl hc
   clear hc
   go_wp2_with fail
   refine mv3 (skip_yes g L t s ⟨#[40]⟩ _ HP.out h4 (by decide)) HC.out HZ.out hlt ?_
   clear HP HC HZ hz hgl
   intro w4 HP HC HZ hz hgl hc
   clear hc
   go_wp2_with fail
   refine (C.out _ HP.out).mono ?_
   intro e wz hp
   obtain ⟨rfl,hc⟩:=hp
   go_wp2_with fail
   exact ⟨rfl,rfl,HC.out.trans hc⟩
  ·
   have HP : Hid (Pt (w.alloc zNode) g L (t :: s)):=h.below (bl _)
   have HC : Hid (Ch g w (w.alloc zNode)):=Ch.of_below (bl _)
   have HZ : Hid (Nb (w.alloc zNode) w.heap.size 0 [] 0 [] none 0 0):=Nb.zero
   have hz:=HZ.out.lt
   have hgl:=HP.out.lt
   clear h
   go_enter Tryz.func248,Tryz.ntmps248
   go_wp2_with fail
   refine qt3 (CN1.out _ HP.out) HP.out HC.out HZ.out ?_
   clear HP HC HZ hz hgl
   intro w1 HP HC HZ hz hgl hc
   clear hc
   go_wp2_with fail
   refine mv3 (skip_no g L t s ⟨#[91]⟩ _ HP.out h2) HC.out HZ.out hlt ?_
   clear HP HC HZ hz hgl
   intro w2 HP HC HZ hz hgl hc
   clear hc
   go_wp2_with fail
   refine mv3 (skip_no g L t s ⟨#[123]⟩ _ HP.out h3) HC.out HZ.out hlt ?_
   clear HP HC HZ hz hgl
   intro w3 HP HC HZ hz hgl hc
   clear hc
   go_wp2_with fail
   refine mv3 (skip_yes g L t s ⟨#[40]⟩ _ HP.out h4 (by decide)) HC.out HZ.out hlt ?_
   clear HP HC HZ hz hgl
   intro w4 HP HC HZ hz hgl hc
   clear hc
   go_wp2_with fail
   refine ok3 (S':=fun b => w.heap.size < b) (C.out _ HP.out) HC.out HZ.out hlt (fun b hb => Nat.lt_of_lt_of_le hz hb) ?_
   clear HP HC HZ hz hgl
   intro Ax cx w5 NAx HP HC HZ hz hgl hc
   clear hc
   unfold ndV
   have hgHN : g < w5.heap.size:=hgl
   have hzHN : w.heap.size < w5.heap.size:=hz
   have hbx : Below w5.heap.size w5 (w5.alloc (.cells #[.int .i64 a.op,.string ⟨a.nm.toArray⟩,.int .i64 a.n,.string ⟨a.t.toArray⟩,.slice Ax a.l.length cx] 25)):=bl _
   have HN : Hid (Nb (w5.alloc (.cells #[.int .i64 a.op,.string ⟨a.nm.toArray⟩,.int .i64 a.n,.string ⟨a.t.toArray⟩,.slice Ax a.l.length cx] 25)) w5.heap.size a.op a.nm a.n a.t Ax a.l.length cx):=Nb.new
   replace NAx:=hid (NAx.out.below hbx)
   have hx:=gw3 HP.out HC.out HZ.out hbx
   clear HP HC HZ hz hgl hbx
   obtain ⟨HP,HC,HZ,hz,hgl⟩:=hx
   go_wp2_with fail
   obtain ⟨u,z,rfl⟩:=HP.out.fin.ex
   rcases Sy.inv_tk hE9 with ⟨h5,hE9⟩ | ⟨h5,rfl⟩
   ·
    obtain rfl:=Sy.inv_ret hE9
    clear hE9
    refine mv3 (take_yes g L u z ⟨#[41]⟩ _ HP.out h5 (by decide)) HC.out HZ.out hlt ?_
    clear HP HC HZ hz hgl
    intro w6 HP HC HZ hz hgl hc
    replace NAx:=hid (NAx.out.ch hc (by simp;omega))
    replace HN:=hid (HN.out.ch hc (by omega))
    clear hc
    have k0:=HN.out.c0
    have k1:=HN.out.c1
    have k2:=HN.out.c2
    have k3:=HN.out.c3
    have k4:=HN.out.c4
    have z0:=HZ.out.c0
    have f0:=HZ.out.free 0
    have z1:=HZ.out.c1
    have f1:=HZ.out.free 1
    have z2:=HZ.out.c2
    have f2:=HZ.out.free 2
    have z3:=HZ.out.c3
    have f3:=HZ.out.free 3
    have z4:=HZ.out.c4
    have f4:=HZ.out.free 4
    go_wp2_with fail
    exact bodyPost_ret (v:=ndV a.op a.nm a.n a.t Ax a.l.length cx) (by simp [results,Tryz.results248,go_sem,ndV,z0,z1,z2,z3,z4,f0,f1,f2,f3,f4]) rfl (fin_st HP.out HC.out hlt NAx.out)
   ·
    refine (take_no g L u z ⟨#[41]⟩ _ HP.out h5).mono ?_
    intro e wz hp
    obtain ⟨rfl,hc⟩:=hp
    go_wp2_with fail
    exact ⟨rfl,rfl,HC.out.trans hc⟩
 obtain ⟨m,hm,hF⟩:=Sy.inv_tail hE4
 have C:=hid (fun W (hW : Pt W g L (t :: s)) => H.lit m (by omega) _ _ hF g L W hW)
 clear hE hE1 hE2 hE3 hE4 hF hm H h1
 cases r with
 | bad q =>
  have HP : Hid (Pt (w.alloc zNode) g L (t :: s)):=h.below (bl _)
  have HC : Hid (Ch g w (w.alloc zNode)):=Ch.of_below (bl _)
  have HZ : Hid (Nb (w.alloc zNode) w.heap.size 0 [] 0 [] none 0 0):=Nb.zero
  have hz:=HZ.out.lt
  have hgl:=HP.out.lt
  clear h
  go_enter Tryz.func248,Tryz.ntmps248
  go_wp2_with fail
  refine qt3 (CN1.out _ HP.out) HP.out HC.out HZ.out ?_
  clear HP HC HZ hz hgl
  intro w1 HP HC HZ hz hgl hc
  clear hc
  go_wp2_with fail
  refine mv3 (skip_no g L t s ⟨#[91]⟩ _ HP.out h2) HC.out HZ.out hlt ?_
  clear HP HC HZ hz hgl
  intro w2 HP HC HZ hz hgl hc
  clear hc
  go_wp2_with fail
  refine mv3 (skip_no g L t s ⟨#[123]⟩ _ HP.out h3) HC.out HZ.out hlt ?_
  clear HP HC HZ hz hgl
  intro w3 HP HC HZ hz hgl hc
  clear hc
  go_wp2_with fail
  refine mv3 (skip_no g L t s ⟨#[40]⟩ _ HP.out h4) HC.out HZ.out hlt ?_
  clear HP HC HZ hz hgl
  intro w4 HP HC HZ hz hgl hc
  clear hc
  go_wp2_with fail
  refine (C.out _ HP.out).mono ?_
  intro e wz hp
  obtain ⟨rfl,hc⟩:=hp
  go_wp2_with fail
  exact ⟨rfl,rfl,HC.out.trans hc⟩
 | ok a q =>
  have HP : Hid (Pt (w.alloc zNode) g L (t :: s)):=h.below (bl _)
  have HC : Hid (Ch g w (w.alloc zNode)):=Ch.of_below (bl _)
  have HZ : Hid (Nb (w.alloc zNode) w.heap.size 0 [] 0 [] none 0 0):=Nb.zero
  have hz:=HZ.out.lt
  have hgl:=HP.out.lt
  clear h
  go_enter Tryz.func248,Tryz.ntmps248
  go_wp2_with fail
  refine qt3 (CN1.out _ HP.out) HP.out HC.out HZ.out ?_
  clear HP HC HZ hz hgl
  intro w1 HP HC HZ hz hgl hc
  clear hc
  go_wp2_with fail
  refine mv3 (skip_no g L t s ⟨#[91]⟩ _ HP.out h2) HC.out HZ.out hlt ?_
  clear HP HC HZ hz hgl
  intro w2 HP HC HZ hz hgl hc
  clear hc
  go_wp2_with fail
  refine mv3 (skip_no g L t s ⟨#[123]⟩ _ HP.out h3) HC.out HZ.out hlt ?_
  clear HP HC HZ hz hgl
  intro w3 HP HC HZ hz hgl hc
  clear hc
  go_wp2_with fail
  refine mv3 (skip_no g L t s ⟨#[40]⟩ _ HP.out h4) HC.out HZ.out hlt ?_
  clear HP HC HZ hz hgl
  intro w4 HP HC HZ hz hgl hc
  clear hc
  go_wp2_with fail
  refine ok3 (S':=fun b => w.heap.size < b) (C.out _ HP.out) HC.out HZ.out hlt (fun b hb => Nat.lt_of_lt_of_le hz hb) ?_
  clear HP HC HZ hz hgl
  intro Ax cx w5 NAx HP HC HZ hz hgl hc
  clear hc
  unfold ndV
  have z0:=HZ.out.c0
  have f0:=HZ.out.free 0
  have z1:=HZ.out.c1
  have f1:=HZ.out.free 1
  have z2:=HZ.out.c2
  have f2:=HZ.out.free 2
  have z3:=HZ.out.c3
  have f3:=HZ.out.free 3
  have z4:=HZ.out.c4
  have f4:=HZ.out.free 4
  go_wp2_with fail
  exact bodyPost_ret (v:=ndV a.op a.nm a.n a.t Ax a.l.length cx) (by simp [results,Tryz.results248,go_sem,ndV,z0,z1,z2,z3,z4,f0,f1,f2,f3,f4]) rfl (fin_st HP.out HC.out hlt NAx.out)
end Go.Proofs.YtgeppafcemeidaaGreatDoor
