/-
  Texts of a proof, joined: functions of the program and of its reference by contract, and what holds of trees, tokens and bytes.
-/
import Derived.Deep.RegionHeld3
import Derived.Deep.RegionLaw
import Derived.Lib.AppendStr
import Derived.Shelf.Bits.Mul64
import Derived.Shelf.LaysC
import Derived.Shelf.LaysM
import Derived.Shelf.Small.Strs
import Derived.Shelf.Small.Utf8
import Derived.Shelf.Strconv.Clone
import Derived.Shelf.Strconv.ErrVarParseInt
import Derived.Shelf.Strconv.Itoa0
import Derived.Shelf.Strconv.Itoa1
import Derived.Shelf.Strconv.Itoa2
import Derived.Shelf.Strconv.Itoa3
import Derived.Shelf.Strconv.Lower
import Derived.Shelf.Strconv.ParseInt10
import Derived.Shelf.Strconv.ParseInt10All
import Derived.Shelf.Strconv.ParseInt10At16
import Derived.Shelf.Strconv.ParseInt10At32
import Derived.Shelf.Strconv.ParseInt10At64
import Derived.Shelf.Strconv.ParseInt10At8
import Derived.Shelf.Strconv.ParseIntEmpty
import Derived.Shelf.Strconv.ParseIntPublic10
import Derived.Shelf.Strconv.ParseUint10
import Derived.Shelf.Strconv.ParseUint10Any
import Derived.Shelf.Strconv.ParseUint10At
import Derived.Shelf.Strconv.ParseUint10Empty
import Derived.Shelf.Strconv.ParseUint10b16
import Derived.Shelf.Strconv.ParseUint10b32
import Derived.Shelf.Strconv.ParseUint10b64
import Derived.Shelf.Strconv.ParseUint10b8
import Derived.Shelf.Strconv.ParseUintEmpty
import Derived.Shelf.Strconv.RangeError
import Derived.Shelf.Strconv.SyntaxError
import Derived.Shelf.Strconv.ToError
import Derived.Shelf.Strconv.ToErrorRange
import Derived.Shelf.Strings.Builder1
import Derived.Shelf.Strings.Builder2
import Derived.Shelf.Strings.BuilderF
import Derived.Shelf.Strings.Prefix
import Derived.Shelf.Strings.Repeat
import Derived.Shelf.Strings.Runes
import Derived.Shelf.Strings.Search1
import Derived.Test.YtgeppafcemeidaaGreatDoorJPA1
import Derived.Test.YtgeppafcemeidaaGreatDoorJPB1
import Derived.Test.YtgeppafcemeidaaGreatDoorJPN1
import Derived.Test.YtgeppafcemeidaaGreatDoorJPT1
import Derived.Test.YtgeppafcemeidaaGreatDoorProg
set_option linter.unusedVariables false
set_option linter.unusedSimpArgs false
set_option maxRecDepth 100000
set_option maxHeartbeats 8000000
namespace Go.Proofs.YtgeppafcemeidaaGreatDoor
namespace Sy
theorem nInd {P:N->Prop} (h:∀ op nm n t l,(∀ v∈l,P v)->P (.mk op nm n t l)):∀ v,P v
 | .mk op nm n t l=>h op nm n t l (fun v hv=>nInd h v)
termination_by v=>SizeOf.sizeOf v
decreasing_by
 have:=List.sizeOf_lt_of_mem hv;simp;omega
def lev (op:Int):Nat :=
 if op=27 then 1 else if op=26 then 2 else if op=13 then 3 else if op=20\/op=21\/op=22\/op=23\/op=24\/op=25 then 4
 else if op=18\/op=19 then 5 else if op=15\/op=16\/op=17 then 6 else if op=11\/op=12\/op=14 then 7 else 8
def sgn (op:Int):List UInt8 :=
 if op=27 then [111,114] else if op=26 then [97,110,100] else if op=20 then [60] else if op=21 then [60,61] else if op=22 then [62] else if op=23 then [62,61]
 else if op=24 then [61,61] else if op=25 then [33,61] else if op=18 then [43] else if op=19 then [45] else if op=15 then [42] else if op=16 then [47] else if op=17 then [37] else []
def par (least:Nat) (op:Int) (s:List UInt8):List UInt8:=if lev op < least then 40::(s++[41]) else s
def glue:List (List UInt8)->List UInt8
 | []=>[]
 | a::l=>a++l.flatMap fun s=>44::32::s
def lft (op:Int):Nat:=if lev op=4 then 5 else lev op
def xf (op:Int) (nm:List UInt8) (n:Int) (t:List UInt8) (o1 o2:Int) (k:List (List UInt8)):List UInt8 :=
 if op=1 then [110,117,108,108] else if op=2 then [116,114,117,101] else if op=3 then [102,97,108,115,101]
 else if op=4 then Lib.itoa n else if op=5 then Tk.quote t else if op=6 then nm
 else if op=7 then 91::(glue k++[93]) else if op=8 then 123::(glue k++[125])
 else if op=9 then Tk.quote t++58::32::k.headD []
 else if op=10 then nm++40::(glue k++[41]) else if op=11 then 103::111::32::(nm++40::(glue k++[41]))
 else if op=12 then [97,119,97,105,116,32]++par 7 o1 (k.headD []) else if op=13 then [110,111,116,32]++par 3 o1 (k.headD [])
 else if op=14 then 45::par 7 o1 (k.headD [])
 else if op=28 then par 8 o1 (k.headD [])++91::(glue k.tail++[93])
 else if op=29 then par 8 o1 (k.headD [])++46::nm
 else par (lft op) o1 (k.headD [])++32::(sgn op++32::par (lev op+1) o2 (k.tail.headD []))
def op0 (l:List N):Int:=match l with
 | []=>0
 | a::_=>a.op
mutual
def X:N->List UInt8
 | .mk op nm n t l=>xf op nm n t (op0 l) (op0 l.tail) (Xs l)
def Xs:List N->List (List UInt8)
 | []=>[]
 | v::l=>X v::Xs l
end
theorem X_mk (op:Int) (nm:List UInt8) (n:Int) (t:List UInt8) (l:List N):X (.mk op nm n t l)=xf op nm n t (op0 l) (op0 l.tail) (Xs l):=by rw [X]
theorem Xs_map:∀ l:List N,Xs l=l.map X
 | []=>by rw [Xs];rfl
 | v::l=>by rw [Xs,Xs_map l];rfl
def sp (n:Nat):List UInt8:=List.replicate n 32
def lines (ind:Nat) (k:List (List UInt8)):List UInt8:=k.flatMap fun s=>sp (ind+2)++(s++[10])
def blk (ind:Nat) (k:List (List UInt8)):List UInt8:=123::10::(lines ind k++(sp ind++[125]))
def k0 (l:List (List UInt8)):List UInt8:=l.headD []
def k1 (l:List (List UInt8)):List UInt8:=l.tail.headD []
def k2 (l:List (List UInt8)):List UInt8:=l.tail.tail.headD []
def pf (op:Int) (nm:List UInt8) (ind:Nat) (x a b:List (List UInt8)):List UInt8 :=
 if op=40 then [108,101,116,32]++(nm++32::61::32::(k0 x++[59])) else if op=41 then nm++32::61::32::(k0 x++[59])
 else if op=42 then [105,102,32]++(k0 x++32::(k1 a++if a.length < 3 then [] else [32,101,108,115,101,32]++k2 a))
 else if op=43 then [119,104,105,108,101,32]++(k0 x++32::k1 a)
 else if op=44 then (if x.length=0 then [114,101,116,117,114,110,59] else [114,101,116,117,114,110,32]++(k0 x++[59]))
 else if op=45 then [116,104,114,111,119,32]++(k0 x++[59])
 else if op=46 then [116,114,121,32]++(k0 a++([32,99,97,116,99,104,32]++(nm++32::k1 a)))
 else if op=47 then [115,97,103,97,32]++k0 a
 else if op=48 then [117,110,100,111,32]++(nm++40::(glue x++[41,59]))
 else if op=49 then [115,101,108,101,99,116,32]++blk ind b
 else if op=50 then [99,97,115,101,32]++((if nm=[] then [] else nm++[32,61,32])++(k0 x++32::k1 a))
 else if op=51 then [101,108,115,101,32]++k0 a
 else if op=53 then blk ind b
 else k0 x++[59]
mutual
def P:N->Nat->List UInt8
 | .mk op nm _ _ l,i=>pf op nm i (l.map X) (Ps l i) (Ps l (i+2))
def Ps:List N->Nat->List (List UInt8)
 | [],_=>[]
 | v::l,i=>P v i::Ps l i
end
theorem P_mk (op:Int) (nm:List UInt8) (n:Int) (t:List UInt8) (l:List N) (i:Nat):P (.mk op nm n t l) i=pf op nm i (l.map X) (Ps l i) (Ps l (i+2)):=by rw [P]
theorem Ps_map (i:Nat):∀ l:List N,Ps l i=l.map fun v=>P v i
 | []=>by rw [Ps];rfl
 | v::l=>by rw [Ps,Ps_map i l];rfl
def D (v:N):List UInt8 :=
 if v.op=61 then [118,97,114,32]++(v.nm++32::61::32::(k0 (v.l.map X)++[59]))
 else if v.op=62 then [102,117,110,99,32]++(v.nm++40::(glue (v.l.dropLast.map X)++41::32::(v.l.getLast?.map fun b=>P b 0).getD []))
 else [111,110,32]++((if v.op=63 then [115,105,103,110,97,108,32] else if v.op=64 then [113,117,101,114,121,32] else [117,112,100,97,116,101,32]) ++
  (v.nm++40::(v.t++41::32::((if v.l.length=1 then [] else [99,104,101,99,107,32]++(k0 (v.l.map fun b=>P b 0)++[32]))++(v.l.getLast?.map fun b=>P b 0).getD []))))
def G (v:N):List UInt8:=v.l.flatMap fun d=>D d++[10]
theorem glue_snoc (l:List (List UInt8)) (a:List UInt8):glue (l++[a])=glue l++((if l.length=0 then [] else [44,32])++a):=by
 cases l with
 | nil=>simp [glue]
 | cons b l=>simp [glue,List.flatMap_append]
theorem glue_take {l:List (List UInt8)} {k:Nat} (h:k < l.length):glue (l.take (k+1))=glue (l.take k)++((if k=0 then [] else [44,32])++l[k]):=by
 rw [List.take_succ_eq_append_getElem h,glue_snoc,List.length_take]
 congr 2
 rw [Nat.min_eq_left (Nat.le_of_lt h)]
def need (op:Int):Nat:=if op<=8\/op=10\/op=11 then 0 else if op=9\/op=12\/op=13\/op=14\/op=29 then 1 else 2
mutual
def aX:N->Bool
 | .mk op _ _ t l=>decide (1<=op)&&decide (op<=29)&&decide (need op<=l.length)&&decide (t.length<=4096)&&aXs l
def aXs:List N->Bool
 | []=>true
 | v::l=>aX v&&aXs l
end
theorem aX_mk {op n:Int} {nm t:List UInt8} {l:List N} (h:aX (.mk op nm n t l)=true):1<=op/\op<=29/\need op<=l.length/\aXs l=true/\t.length<=4096:=by
 rw [aX] at h;simp only [Bool.and_eq_true,decide_eq_true_eq] at h;exact⟨h.1.1.1.1,h.1.1.1.2,h.1.1.2,h.2,h.1.2⟩
theorem aXs_all:∀ l:List N,aXs l=l.all aX
 | []=>by rw [aXs];rfl
 | v::l=>by rw [aXs,aXs_all l];rfl
end Sy
end Go.Proofs.YtgeppafcemeidaaGreatDoor
namespace Go.Proofs.YtgeppafcemeidaaGreatDoor
open Go.RowKit
theorem op_cases9 {op:Int} (h1:15<=op) (h2:op<=27):op=15\/op=16\/op=17\/op=18\/op=19\/op=20\/op=21\/op=22\/op=23\/op=24\/op=25\/op=26\/op=27:=by omega
theorem lev_hi {op:Int} (h:op < 11\/27 < op):Sy.lev op=8:=by
 unfold Sy.lev;rw [if_neg (by omega),if_neg (by omega),if_neg (by omega),if_neg (by omega),if_neg (by omega),if_neg (by omega),if_neg (by omega)]
theorem lev_le (op:Int):Sy.lev op<=8:=by
 unfold Sy.lev
 repeat' split
 all_goals omega
theorem ne_b9 {a b:Int} (h:a≠b):(a==b)=false:=by simpa using h
theorem infix9_yes (op:Int) (w:World) (h1:15<=op) (h2:op<=27) :
  Calls Tryz.prog 163 #[.int .i64 op] w fun e w'=>e=.returned (.tuple #[.string ⟨(Sy.sgn op).toArray⟩,.int .i64 (Sy.lev op:Int)])/\w=w':=by
 rcases op_cases9 h1 h2 with rfl | rfl | rfl | rfl | rfl | rfl | rfl | rfl | rfl | rfl | rfl | rfl | rfl
 all_goals
  clear h1 h2;go_enter Tryz.func163,Tryz.ntmps163;go_wp2_with fail
  go_ret2
  exact⟨rfl,rfl⟩
theorem infix9_no (op:Int) (w:World) (h:op < 15\/27 < op) :
  Calls Tryz.prog 163 #[.int .i64 op] w fun e w'=>e=.returned (.tuple #[.string ⟨[].toArray⟩,.int .i64 0])/\w=w':=by
 have e1:=ne_b9 (a:=op) (b:=27) (by omega)
 have e2:=ne_b9 (a:=op) (b:=26) (by omega)
 have e3:=ne_b9 (a:=op) (b:=20) (by omega)
 have e4:=ne_b9 (a:=op) (b:=21) (by omega)
 have e5:=ne_b9 (a:=op) (b:=22) (by omega)
 have e6:=ne_b9 (a:=op) (b:=23) (by omega)
 have e7:=ne_b9 (a:=op) (b:=24) (by omega)
 have e8:=ne_b9 (a:=op) (b:=25) (by omega)
 have e9:=ne_b9 (a:=op) (b:=18) (by omega)
 have e10:=ne_b9 (a:=op) (b:=19) (by omega)
 have e11:=ne_b9 (a:=op) (b:=15) (by omega)
 have e12:=ne_b9 (a:=op) (b:=16) (by omega)
 have e13:=ne_b9 (a:=op) (b:=17) (by omega)
 clear h;go_enter Tryz.func163,Tryz.ntmps163;go_wp2_with fail
 go_ret2
 exact⟨rfl,rfl⟩
theorem level9_any (op:Int) (w:World) (h1:1<=op) (h2:op<=29) :
  Calls Tryz.prog 162 #[.int .i64 op] w fun e w'=>e=.returned (.int .i64 (Sy.lev op:Int))/\w=w':=by
 by_cases h13:op=13
 ·
  subst h13;go_enter Tryz.func162,Tryz.ntmps162;go_wp2_with fail;go_ret;exact⟨rfl,rfl⟩
 by_cases h14:op=11\/op=12\/op=14
 ·
  rcases h14 with rfl | rfl | rfl
  all_goals
   go_enter Tryz.func162,Tryz.ntmps162;go_wp2_with fail;go_ret;exact⟨rfl,rfl⟩
 have e1:=ne_b9 h13;have e2:=ne_b9 (a:=op) (b:=14) (by omega)
 have e3:=ne_b9 (a:=op) (b:=12) (by omega)
 have e4:=ne_b9 (a:=op) (b:=11) (by omega)
 by_cases h15:15<=op/\op<=27
 ·
  have C:=hid (infix9_yes op w h15.1 h15.2);have hne:(Sy.sgn op).isEmpty=false:=by
   rcases op_cases9 h15.1 h15.2 with rfl | rfl | rfl | rfl | rfl | rfl | rfl | rfl | rfl | rfl | rfl | rfl | rfl<;>decide
  clear h1 h2 h13 h14 h15;generalize Sy.sgn op=x at *;have hl:=lev_le op;generalize Sy.lev op=y at *;go_enter Tryz.func162,Tryz.ntmps162;go_wp2_with fail;refine C.out.mono ?_;rintro e w' ⟨rfl,rfl⟩;go_wp2_with fail;go_ret;exact⟨rfl,rfl⟩
 ·
  have C:=hid (infix9_no op w (by omega))
  have hl:Hid (Sy.lev op=8):=lev_hi (by omega)
  rw [hl.out];clear h1 h2 h13 h14 h15 hl;go_enter Tryz.func162,Tryz.ntmps162;go_wp2_with fail;refine C.out.mono ?_;rintro e w' ⟨rfl,rfl⟩;go_wp2_with fail;go_ret;exact⟨rfl,rfl⟩
theorem all_cases9 {op:Int} (h1:1<=op) (h2:op<=29):op=1\/op=2\/op=3\/op=4\/op=5\/op=6\/op=7\/op=8\/op=9\/op=10\/op=11\/op=12\/op=13\/op=14\/op=15\/op=16\/op=17\/op=18\/op=19\/op=20\/op=21\/op=22\/op=23\/op=24\/op=25\/op=26\/op=27\/op=28\/op=29:=by omega
theorem rsign9_any (op:Int) (w:World) (h1:1<=op) (h2:op<=29) :
  Calls Tryz.prog 75 #[.int .i64 op] w fun e w'=>e=.returned (.string ⟨(Sy.sgn op).toArray⟩)/\w=w':=by
 rcases all_cases9 h1 h2 with rfl | rfl | rfl | rfl | rfl | rfl | rfl | rfl | rfl | rfl | rfl | rfl | rfl | rfl | rfl | rfl | rfl | rfl | rfl | rfl | rfl | rfl | rfl | rfl | rfl | rfl | rfl | rfl | rfl
 all_goals
  clear h1 h2;go_enter Tryz.func75,Tryz.ntmps75;go_wp2_with fail;go_ret;exact⟨rfl,rfl⟩
theorem rlevel9_any (op:Int) (w:World) (h1:1<=op) (h2:op<=29) :
  Calls Tryz.prog 124 #[.int .i64 op] w fun e w'=>e=.returned (.int .i64 (Sy.lev op:Int))/\w=w':=by
 rcases all_cases9 h1 h2 with rfl | rfl | rfl | rfl | rfl | rfl | rfl | rfl | rfl | rfl | rfl | rfl | rfl | rfl | rfl | rfl | rfl | rfl | rfl | rfl | rfl | rfl | rfl | rfl | rfl | rfl | rfl | rfl | rfl
 all_goals
  clear h1 h2;go_enter Tryz.func124,Tryz.ntmps124;go_wp2_with fail;go_ret;exact⟨rfl,rfl⟩
end Go.Proofs.YtgeppafcemeidaaGreatDoor
namespace Go.Proofs.YtgeppafcemeidaaGreatDoor
namespace Sy
theorem rPs_one {v:N} {l:List N} (h:rPs (v::l)=true):rPs [v]=true/\rPs l=true:=by
 obtain⟨op,nm,n,t,k⟩:=v;rw [rPs] at h |-
 simp only [Bool.and_eq_true] at h |-
 exact⟨⟨h.1,by rw [rPs]⟩,h.2⟩
theorem all_sub {p q:N->Bool} {l:List N} (h:∀ v∈l,p v=true->q v=true) (hp:l.all p=true):l.all q=true:=by
 rw [List.all_eq_true] at hp |-
 exact fun v hv=>h v hv (hp v hv)
theorem rX_aX (v:N):(rX v=true->aX v=true)/\(rPs [v]=true->aX v=true):=by
 induction v using nInd with
 | h op nm n t l ih =>
  have hk:rXs l=true->aXs l=true:=fun h=>by
   rw [rXs_all] at h;rw [aXs_all];exact all_sub (fun v hv=>(ih v hv).1) h
  have hp:rPs l=true->aXs l=true:=fun h=>by
   have:∀ k:List N,(∀ v∈k,v∈l)->rPs k=true->k.all aX=true:=by
    intro k;induction k with
    | nil=>intro _ _;rfl
    | cons v k ih2 =>
     intro hs hr;obtain⟨h1,h2⟩:=rPs_one hr;rw [List.all_cons,(ih v (hs v (by simp))).2 h1,ih2 (fun u hu=>hs u (by simp [hu])) h2];rfl
   rw [aXs_all];exact this l (fun _ h=>h) h
  have bt:∀ a b,bareN (.mk op nm n t l) a b=true->t.length<=4096:=fun a b h=>by
   unfold bareN at h;simp only [Bool.and_eq_true,decide_eq_true_eq] at h;exact h.2
  constructor
  ·
   intro h;rw [rX] at h;rw [aX];have hn:∀ k,need op<=k↔(if op<=8\/op=10\/op=11 then 0 else if op=9\/op=12\/op=13\/op=14\/op=29 then 1 else 2)<=k:=fun k=>Iff.rfl
   simp only [Bool.and_eq_true,decide_eq_true_eq,hn];have nl:∀ b,(b&&l.length==0)=true->l=[]:=fun b hb=>by
    rw [Bool.and_eq_true] at hb;exact List.eq_nil_of_length_eq_zero (by simpa using hb.2)
   have z:aXs ([]:List N)=true:=by rw [aXs]
   split at h
   ·
    rename_i ho;have ht:t.length<=4096:=by
     simp only [Bool.and_eq_true,beq_iff_eq] at h;first
      | exact bt _ _ h.1.1.1
      | exact bt _ _ h.1.1
      | exact bt _ _ h.1
      | exact bt _ _ h.2
      | (rw [h.1.1.2];simp)
    have:=nl _ h;subst this;refine⟨⟨⟨⟨by omega,by omega⟩,?_⟩,ht⟩,z⟩
    rw [if_pos (by omega)];omega
   split at h
   ·
    rename_i ho;have ht:t.length<=4096:=by
     simp only [Bool.and_eq_true,beq_iff_eq] at h;first
      | exact bt _ _ h.1.1.1
      | exact bt _ _ h.1.1
      | exact bt _ _ h.1
      | exact bt _ _ h.2
      | (rw [h.1.1.2];simp)
    have:=nl _ h;subst this;refine⟨⟨⟨⟨by omega,by omega⟩,?_⟩,ht⟩,z⟩
    rw [if_pos (by omega)];omega
   split at h
   ·
    rename_i ho;have ht:t.length<=4096:=by
     simp only [Bool.and_eq_true,beq_iff_eq] at h;first
      | exact bt _ _ h.1.1.1
      | exact bt _ _ h.1.1
      | exact bt _ _ h.1
      | exact bt _ _ h.2
      | (rw [h.1.1.2];simp)
    have:=nl _ h;subst this;refine⟨⟨⟨⟨by omega,by omega⟩,?_⟩,ht⟩,z⟩
    rw [if_pos (by omega)];omega
   split at h
   ·
    rename_i ho;have ht:t.length<=4096:=by
     simp only [Bool.and_eq_true,beq_iff_eq] at h;first
      | exact bt _ _ h.1.1.1
      | exact bt _ _ h.1.1
      | exact bt _ _ h.1
      | exact bt _ _ h.2
      | (rw [h.1.1.2];simp)
    have:=nl _ h;subst this;refine⟨⟨⟨⟨by omega,by omega⟩,?_⟩,ht⟩,z⟩
    rw [if_pos (by omega)];omega
   split at h
   ·
    rename_i ho;have ht:t.length<=4096:=by
     simp only [Bool.and_eq_true,beq_iff_eq] at h;first
      | exact bt _ _ h.1.1.1
      | exact bt _ _ h.1.1
      | exact bt _ _ h.1
      | exact bt _ _ h.2
      | (rw [h.1.1.2];simp)
    rw [Bool.and_eq_true] at h;refine⟨⟨⟨⟨by omega,by omega⟩,?_⟩,ht⟩,hk h.2⟩
    rw [if_pos (by omega)];omega
   split at h
   ·
    rename_i ho;have ht:t.length<=4096:=by
     simp only [Bool.and_eq_true,beq_iff_eq] at h;first
      | exact bt _ _ h.1.1.1
      | exact bt _ _ h.1.1
      | exact bt _ _ h.1
      | exact bt _ _ h.2
      | (rw [h.1.1.2];simp)
    rw [Bool.and_eq_true] at h;refine⟨⟨⟨⟨by omega,by omega⟩,?_⟩,ht⟩,hp h.1⟩
    rw [if_pos (by omega)];omega
   split at h
   ·
    rename_i ho;have ht:t.length<=4096:=by
     simp only [Bool.and_eq_true,beq_iff_eq] at h;first
      | exact bt _ _ h.1.1.1
      | exact bt _ _ h.1.1
      | exact bt _ _ h.1
      | exact bt _ _ h.2
      | (rw [h.1.1.2];simp)
    rw [Bool.and_eq_true] at h;refine⟨⟨⟨⟨by omega,by omega⟩,?_⟩,ht⟩,hk h.2⟩
    rw [if_pos (by omega)];omega
   split at h
   ·
    rename_i ho;have ht:t.length<=4096:=by
     simp only [Bool.and_eq_true,beq_iff_eq] at h;first
      | exact bt _ _ h.1.1.1
      | exact bt _ _ h.1.1
      | exact bt _ _ h.1
      | exact bt _ _ h.2
      | (rw [h.1.1.2];simp)
    simp only [Bool.and_eq_true,beq_iff_eq] at h;refine⟨⟨⟨⟨by omega,by omega⟩,?_⟩,ht⟩,hk h.2⟩
    rw [if_neg (by omega),if_pos (by omega)];omega
   split at h
   ·
    rename_i ho;have ht:t.length<=4096:=by
     simp only [Bool.and_eq_true,beq_iff_eq] at h;first
      | exact bt _ _ h.1.1.1
      | exact bt _ _ h.1.1
      | exact bt _ _ h.1
      | exact bt _ _ h.2
      | (rw [h.1.1.2];simp)
    simp only [Bool.and_eq_true,beq_iff_eq] at h;refine⟨⟨⟨⟨by omega,by omega⟩,?_⟩,ht⟩,hk h.2⟩
    rw [if_neg (by omega),if_pos (by omega)];omega
   ·
    simp only [Bool.and_eq_true,beq_iff_eq,decide_eq_true_eq] at h;have ht:=bt _ _ h.1.1.2;refine⟨⟨⟨⟨by omega,by omega⟩,?_⟩,ht⟩,hk h.2⟩
    rw [if_neg (by omega),if_neg (by omega)];omega
  ·
   intro h;rw [rPs] at h;rw [aX];simp only [Bool.and_eq_true,beq_iff_eq,decide_eq_true_eq] at h |-
   obtain⟨⟨⟨⟨h1,h1b⟩,h2⟩,h3⟩,_⟩:=h;refine⟨⟨⟨⟨by omega,by omega⟩,?_⟩,bt _ _ h1b⟩,hk h3⟩
   unfold need;rw [if_neg (by omega),if_pos (by omega)];omega
theorem rX_op {v:N} (h:rX v=true):v.op<=29:=by
 obtain⟨op,nm,n,t,l⟩:=v;exact(aX_mk ((rX_aX _).1 h)).2.1
def opAt (l:List N) (i:Nat) (p:Int->Bool):Bool:=match l[i]? with
 | some v=>p v.op
 | none=>false
def isx (o:Int):Bool:=decide (o<=29)
def isb (o:Int):Bool:=decide (o=53)
def shape (op:Int) (l:List N):Bool :=
 if op=40\/op=41\/op=45\/op=52 then opAt l 0 isx
 else if op=42 then opAt l 0 isx&&opAt l 1 isb&&(decide (l.length < 3) || opAt l 2 fun o=>decide (o=42\/o=53))
 else if op=43\/op=50 then opAt l 0 isx&&opAt l 1 isb
 else if op=44 then decide (l.length=0) || opAt l 0 isx
 else if op=46 then opAt l 0 isb&&opAt l 1 isb
 else if op=47\/op=51 then opAt l 0 isb
 else if op=48 then l.all fun v=>isx v.op
 else if op=49\/op=53 then l.all fun v=>decide (40<=v.op/\v.op<=52)
 else false
mutual
def aP:N->Bool
 | .mk op _ _ _ l=>shape op l&&aPs l
def aPs:List N->Bool
 | []=>true
 | v::l=>(if v.op<=29 then aX v else aP v)&&aPs l
end
def aA (v:N):Bool:=if v.op<=29 then aX v else aP v
theorem aPs_all:∀ l:List N,aPs l=l.all aA
 | []=>by rw [aPs];rfl
 | v::l=>by rw [aPs,aPs_all l];rfl
theorem aP_mk {op n:Int} {nm t:List UInt8} {l:List N}:aP (.mk op nm n t l)=(shape op l&&l.all aA):=by rw [aP,aPs_all]
theorem aA_x {v:N} (h:aX v=true):aA v=true:=by
 obtain⟨op,nm,n,t,l⟩:=v;unfold aA;rw [if_pos (show N.op (.mk op nm n t l)<=29 from (aX_mk h).2.1)];exact h
theorem aA_p {v:N} (h:aP v=true) (ho:¬ v.op<=29):aA v=true:=by unfold aA;rw [if_neg ho];exact h
theorem rXs_aA {l:List N} (h:rXs l=true):l.all aA=true/\(l.all fun v=>isx v.op)=true:=by
 rw [rXs_all] at h;exact⟨all_sub (fun v _ hv=>aA_x ((rX_aX v).1 hv)) h,all_sub (fun v _ hv=>by unfold isx;simpa using rX_op hv) h⟩
theorem rCs_one {i:Nat} {v:N} {l:List N} (h:rCs i (v::l)=true):rCs i [v]=true/\rCs (i+1) l=true:=by
 obtain⟨op,nm,n,t,k⟩:=v;rw [rCs] at h |-
 simp only [Bool.and_eq_true,Bool.or_eq_true] at h |-
 refine⟨⟨?_,by rw [rCs]⟩,h.2⟩
 rcases h.1 with h1 | h1
 ·
  exact .inl ⟨⟨⟨h1.1.1.1,rfl⟩,h1.1.2⟩,h1.2⟩
 ·
  exact .inr h1
structure AP (v:N):Prop where
 s:rS v=true->aP v=true/\40<=v.op/\v.op<=52
 b:rB v=true->aP v=true/\v.op=53
 c:∀ i,rCs i [v]=true->aP v=true/\40<=v.op/\v.op<=52
theorem rIf_aP {op n:Int} {nm t:List UInt8} {l:List N} (ih:∀ v∈l,AP v) (ho:op=42) (h:rIf l=true):aP (.mk op nm n t l)=true:=by
 rw [aP_mk];subst ho;have e:shape 42 l=(opAt l 0 isx&&opAt l 1 isb&&(decide (l.length < 3) || opAt l 2 fun o=>decide (o=42\/o=53))):=rfl
 rw [e]
 match l,h,ih with
 | [a,b],h,ih =>
  rw [rIf,Bool.and_eq_true] at h;obtain⟨h1,h2⟩:=(ih b (by simp)).b h.2
  have h3:=rX_op h.1;simp only [List.all_cons,aA_x ((rX_aX a).1 h.1),aA_p h1 (by omega)]
  simp [opAt,isx,isb,h2,h3]
 | [a,b,c],h,ih =>
  rw [rIf,Bool.and_eq_true,Bool.and_eq_true,Bool.or_eq_true,Bool.and_eq_true] at h;obtain⟨h1,h2⟩:=(ih b (by simp)).b h.1.2
  have h3:=rX_op h.1.1;have h4:aP c=true/\(c.op=42\/c.op=53):=by
   rcases h.2 with h5 | h5
   ·
    have:=(ih c (by simp)).b h5;exact⟨this.1,.inr this.2⟩
   ·
    exact⟨((ih c (by simp)).s h5.2).1,.inl (by simpa using h5.1)⟩
  simp only [List.all_cons,aA_x ((rX_aX a).1 h.1.1),aA_p h1 (by omega),aA_p h4.1 (by rcases h4.2 with h | h<;>omega)]
  simp [opAt,isx,isb,h2,h3,h4.2]
theorem rWh_l {l:List N} (ih:∀ v∈l,AP v) (h:rWh l=true):(opAt l 0 isx&&opAt l 1 isb)=true/\l.all aA=true:=by
 match l,h,ih with
 | [a,b],h,ih =>
  rw [rWh,Bool.and_eq_true] at h;obtain⟨h1,h2⟩:=(ih b (by simp)).b h.2
  have h3:=rX_op h.1;simp only [List.all_cons,aA_x ((rX_aX a).1 h.1),aA_p h1 (by omega)]
  simp [opAt,isx,isb,h2,h3]
theorem rBs_l {l:List N} (ih:∀ v∈l,AP v) (h:rBs l=true):(l.all fun v=>isb v.op)=true/\l.all aA=true:=by
 rw [rBs_all] at h;exact⟨all_sub (fun v hv hb=>by have:=((ih v hv).b hb).2;unfold isb;simpa using this) h,all_sub (fun v hv hb=>by have:=(ih v hv).b hb;exact aA_p this.1 (by omega)) h⟩
theorem opAt_all {l:List N} {i:Nat} {p:Int->Bool} (h:(l.all fun v=>p v.op)=true) (hi:i < l.length):opAt l i p=true:=by
 unfold opAt;rw [List.getElem?_eq_getElem hi];exact List.all_eq_true.1 h _ (List.getElem_mem hi)
theorem rP_aP (v:N):AP v:=by
 induction v using nInd with
 | h op nm n t l ih =>
  refine⟨?_,?_,?_⟩
  ·
   intro h;rw [rS] at h;have hop:N.op (.mk op nm n t l)=op:=rfl;rw [hop];have one:(l.length==1)=true->rXs l=true->opAt l 0 isx=true/\l.all aA=true:=fun h1 h2=>by
    obtain⟨g1,g2⟩:=rXs_aA h2;have:l.length=1:=by simpa using h1
    exact⟨opAt_all g2 (by omega),g1⟩
   split at h
   ·
    rename_i ho;simp only [Bool.and_eq_true] at h;obtain⟨g1,g2⟩:=one h.1.2 h.2;refine⟨?_,by omega,by omega⟩
    rw [aP_mk,g2];unfold shape;rw [if_pos (by omega),g1];rfl
   split at h
   ·
    rename_i ho;rw [Bool.and_eq_true] at h;exact⟨rIf_aP ih ho h.2,by omega,by omega⟩
   split at h
   ·
    rename_i ho;rw [Bool.and_eq_true] at h;obtain⟨g1,g2⟩:=rWh_l ih h.2;refine⟨?_,by omega,by omega⟩
    rw [aP_mk,g2];unfold shape;rw [if_neg (by omega),if_neg (by omega),if_pos (by omega),g1];rfl
   split at h
   ·
    rename_i ho;simp only [Bool.and_eq_true,decide_eq_true_eq] at h;obtain⟨g1,g2⟩:=rXs_aA h.2;refine⟨?_,by omega,by omega⟩
    rw [aP_mk,g1];unfold shape;rw [if_neg (by omega),if_neg (by omega),if_neg (by omega),if_pos (by omega)]
    by_cases hz:l.length=0
    ·
     simp [hz]
    ·
     rw [opAt_all g2 (by omega)];simp
   split at h
   ·
    rename_i ho;simp only [Bool.and_eq_true] at h;obtain⟨g1,g2⟩:=one h.1.2 h.2;refine⟨?_,by omega,by omega⟩
    rw [aP_mk,g2];unfold shape;rw [if_pos (by omega),g1];rfl
   split at h
   ·
    rename_i ho;simp only [Bool.and_eq_true,beq_iff_eq] at h;obtain⟨g1,g2⟩:=rBs_l ih h.2;refine⟨?_,by omega,by omega⟩
    rw [aP_mk,g2];unfold shape;rw [if_neg (by omega),if_neg (by omega),if_neg (by omega),if_neg (by omega),if_pos (by omega),opAt_all g1 (by omega),opAt_all g1 (by omega)];rfl
   split at h
   ·
    rename_i ho;simp only [Bool.and_eq_true,beq_iff_eq] at h;obtain⟨g1,g2⟩:=rBs_l ih h.2;refine⟨?_,by omega,by omega⟩
    rw [aP_mk,g2];unfold shape;rw [if_neg (by omega),if_neg (by omega),if_neg (by omega),if_neg (by omega),if_neg (by omega),if_pos (by omega),opAt_all g1 (by omega)];rfl
   split at h
   ·
    rename_i ho;simp only [Bool.and_eq_true] at h;obtain⟨g1,g2⟩:=rXs_aA h.2;refine⟨?_,by omega,by omega⟩
    rw [aP_mk,g1];unfold shape;rw [if_neg (by omega),if_neg (by omega),if_neg (by omega),if_neg (by omega),if_neg (by omega),if_neg (by omega),if_pos (by omega),g2];rfl
   split at h
   ·
    rename_i ho;simp only [Bool.and_eq_true] at h;have hc:∀ (k:List N) (i:Nat),(∀ v∈k,v∈l)->rCs i k=true->k.all (fun v=>decide (40<=v.op/\v.op<=52))=true/\k.all aA=true:=by
     intro k;induction k with
     | nil=>intro _ _ _;exact⟨rfl,rfl⟩
     | cons v k ih2 =>
      intro i hs hr;obtain⟨h1,h2⟩:=rCs_one hr;obtain⟨p1,p2,p3⟩:=(ih v (hs v (by simp))).c i h1
      obtain⟨q1,q2⟩:=ih2 (i+1) (fun u hu=>hs u (by simp [hu])) h2
      rw [List.all_cons,List.all_cons,q1,q2,aA_p p1 (by omega)]
      simp [p2,p3]
    obtain⟨g1,g2⟩:=hc l 0 (fun _ h=>h) h.2
    refine⟨?_,by omega,by omega⟩
    rw [aP_mk,g2];unfold shape;rw [if_neg (by omega),if_neg (by omega),if_neg (by omega),if_neg (by omega),if_neg (by omega),if_neg (by omega),if_neg (by omega),if_pos (by omega),g1];rfl
   ·
    cases h
  ·
   intro h;rw [rB] at h;simp only [Bool.and_eq_true,beq_iff_eq] at h;obtain⟨⟨ho,_⟩,h2⟩:=h;refine⟨?_,ho⟩;rw [rSs_all] at h2;rw [aP_mk];unfold shape;rw [if_neg (by omega),if_neg (by omega),if_neg (by omega),if_neg (by omega),if_neg (by omega),if_neg (by omega),if_neg (by omega),if_pos (by omega)]
   rw [all_sub (fun v hv hs=>by have:=(ih v hv).s hs;simpa using this.2) h2,all_sub (fun v hv hs=>by have:=(ih v hv).s hs;exact aA_p this.1 (by omega)) h2];rfl
  ·
   intro i h;rw [rCs] at h;simp only [Bool.and_eq_true,Bool.or_eq_true,beq_iff_eq] at h;have hop:N.op (.mk op nm n t l)=op:=rfl;rw [hop];rcases h.1 with h1 | h1
   ·
    have ho:=h1.1.1.1;have hl:=h1.2;refine⟨?_,by omega,by omega⟩
    match l,hl,ih with
    | [b],hl,ih =>
     rw [rEl] at hl;obtain⟨g1,g2⟩:=(ih b (by simp)).b hl
     rw [aP_mk];unfold shape;rw [if_neg (by omega),if_neg (by omega),if_neg (by omega),if_neg (by omega),if_neg (by omega),if_pos (by omega)]
     simp [opAt,isb,g2,aA_p g1 (by omega)]
   ·
    have ho:=h1.1.1.1;obtain⟨g1,g2⟩:=rWh_l ih h1.2;refine⟨?_,by omega,by omega⟩
    rw [aP_mk,g2];unfold shape;rw [if_neg (by omega),if_neg (by omega),if_pos (by omega),g1];rfl
def aD (v:N):Bool :=
 if v.op=61 then opAt v.l 0 isx&&v.l.all aA
 else decide (62<=v.op)&&decide (v.op<=65)&&decide (v.l≠[])&&(v.l.getLast?.map fun b=>isb b.op&&aP b).getD false &&
  (if v.op=62 then v.l.dropLast.all aX else decide (v.l.length<=2)&&opAt v.l 0 isb&&v.l.all aA&&(decide (v.op=65) || decide (v.l.length=1)))
theorem rPar_l:∀ {l:List N},rPar l=true->l≠[]/\(l.getLast?.map fun b=>isb b.op&&aP b).getD false=true/\l.dropLast.all aX=true
 | [],h=>by rw [rPar] at h;cases h
 | [b],h=>by
  rw [rPar] at h;obtain⟨g1,g2⟩:=(rP_aP b).b h;refine⟨by simp,?_,rfl⟩
  simp [isb,g1,g2]
 | a::b::l,h=>by
  rw [rPar] at h;simp only [Bool.and_eq_true,beq_iff_eq] at h;obtain⟨h1,h2,h3⟩:=rPar_l h.2;refine⟨by simp,?_,?_⟩
  ·
   rw [List.getLast?_cons_cons];exact h2
  ·
   rw [List.dropLast_cons_of_ne_nil h1,List.all_cons,h3,(rX_aX a).1 h.1.2];rfl
  all_goals simp
theorem rBs_last {l:List N} (h:rBs l=true) (hl:l≠[]):(l.getLast?.map fun b=>isb b.op&&aP b).getD false=true:=by
 rw [rBs_all] at h;rw [List.getLast?_eq_some_getLast hl];have:=List.all_eq_true.1 h _ (List.getLast_mem hl);obtain⟨g1,g2⟩:=(rP_aP _).b this;simp [isb,g1,g2]
theorem rD_aD {v:N} (h:rD v=true):aD v=true:=by
 unfold rD at h;unfold aD;split at h
 ·
  rename_i ho;rw [if_pos ho];rw [Bool.and_eq_true] at h;have hl:=h.2
  match hv:v.l,hl with
  | [a],hl =>
   rw [rVar] at hl;have:rX a=true:=by
    unfold rK at hl;split at hl
    ·
     simp only [Bool.and_eq_true] at hl;exact hl.1
    ·
     simp only [Bool.and_eq_true] at hl;exact hl.1.1
   simp [opAt,isx,rX_op this,aA_x ((rX_aX a).1 this)]
 rename_i ho;rw [if_neg ho];split at h
 ·
  rename_i ho;rw [Bool.and_eq_true] at h;obtain⟨g1,g2,g3⟩:=rPar_l h.2;rw [if_pos ho,g2,g3];simp [ho,g1]
 split at h
 ·
  rename_i ho2 ho3;simp only [Bool.and_eq_true,beq_iff_eq] at h;have hne:v.l≠[]:=by intro e;rw [e] at h;simp at h
  obtain⟨g1,g2⟩:=rBs_l (fun u _=>rP_aP u) h.2
  have hl:=h.1.2;rw [if_neg ho2,rBs_last h.2 hne,g2,opAt_all g1 (by omega)]
  simp [hne,hl];omega
 split at h
 ·
  rename_i ho2 ho3 ho4;simp only [Bool.and_eq_true,decide_eq_true_eq] at h;have hne:v.l≠[]:=by intro e;rw [e] at h;simp at h
  obtain⟨g1,g2⟩:=rBs_l (fun u _=>rP_aP u) h.2
  have hl:=h.1.2;rw [if_neg ho2,rBs_last h.2 hne,g2,opAt_all g1 (by omega)]
  simp [hne,hl];omega
 ·
  cases h
end Sy
end Go.Proofs.YtgeppafcemeidaaGreatDoor
namespace Go.Proofs.YtgeppafcemeidaaGreatDoor
namespace Sy
mutual
def ms:N->Nat
 | .mk _ nm _ t l=>1+nm.length+t.length+mss l
def mss:List N->Nat
 | []=>0
 | v::l=>ms v+mss l
end
theorem ms_mk {op n:Int} {nm t:List UInt8} {l:List N}:ms (.mk op nm n t l)=1+nm.length+t.length+mss l:=by rw [ms]
theorem mss_nil:mss []=0:=by rw [mss]
theorem mss_cons {v:N} {l:List N}:mss (v::l)=ms v+mss l:=by rw [mss]
theorem mss_mem {v:N}:∀ {l:List N},v∈l->ms v<=mss l
 | u::l,h=>by
  rw [mss_cons];rcases List.mem_cons.1 h with rfl | h
  ·
   omega
  ·
   have:=mss_mem h;omega
mutual
def nk:N->Bool
 | .mk _ _ n _ l=>decide (-9223372036854775808<=n)&&decide (n<=9223372036854775807)&&nks l
def nks:List N->Bool
 | []=>true
 | v::l=>nk v&&nks l
end
theorem nks_mem {v:N}:∀ {l:List N},nks l=true->v∈l->nk v=true
 | u::l,h,hv=>by
  rw [nks,Bool.and_eq_true] at h;rcases List.mem_cons.1 hv with rfl | hv
  ·
   exact h.1
  ·
   exact nks_mem h.2 hv
theorem itoa_len {n:Int} (h0 : -9223372036854775808<=n) (h1:n<=9223372036854775807):(Lib.itoa n).length<=20:=by
 have h:=Nm.dec_len 18 n.natAbs (by omega)
 unfold Lib.itoa;split
 ·
  simp only [List.length_cons];omega
 ·
  have:n.toNat=n.natAbs:=by omega
  rw [this];omega
theorem quote_len (t:List UInt8):(Tk.quote t).length<=2+4 * t.length:=by
 unfold Tk.quote;have:=Tk.qcs_len t;simp only [List.length_cons,List.length_append,List.length_nil];omega
theorem glue_len:∀ l:List (List UInt8),(glue l).length<=(l.map fun s=>s.length+2).sum
 | []=>by simp [glue]
 | a::l=>by
  have:∀ l:List (List UInt8),(l.flatMap fun s=>44::32::s).length=(l.map fun s=>s.length+2).sum:=by
   intro l;induction l with
   | nil=>rfl
   | cons b l ih=>rw [List.flatMap_cons,List.length_append,ih,List.map_cons,List.sum_cons];simp only [List.length_cons]
  unfold glue;rw [List.length_append,this,List.map_cons,List.sum_cons];omega
theorem par_len (k:Nat) (o:Int) (s:List UInt8):(par k o s).length<=s.length+2:=by
 unfold par;split
 ·
  simp
 ·
  omega
theorem two_len:∀ l:List (List UInt8),(l.headD []).length+(l.tail.headD []).length<=(l.map fun s=>s.length).sum
 | []=>by simp
 | [a]=>by simp
 | a::b::l=>by simp<;>omega
theorem sum_two:∀ l:List (List UInt8),(l.map fun s=>s.length+2).sum=(l.map fun s=>s.length).sum+2 * l.length
 | []=>rfl
 | a::l=>by simp only [List.map_cons,List.sum_cons,sum_two l,List.length_cons];omega
theorem glue_tail (l:List (List UInt8)):(l.headD []).length+(glue l.tail).length<=(l.map fun s=>s.length+2).sum:=by
 cases l with
 | nil=>simp [glue]
 | cons a l=>have:=glue_len l;simp only [List.headD_cons,List.tail_cons,List.map_cons,List.sum_cons];omega
theorem ite_le {c:Prop} [Decidable c] {a b:List UInt8} {k:Nat} (ha:a.length<=k) (hb:b.length<=k):(if c then a else b).length<=k:=by split<;>assumption
theorem sgn_len (o:Int):(sgn o).length<=3:=by
 unfold sgn
 repeat' with_reducible apply ite_le
 all_goals decide
theorem xf_len (op:Int) (nm:List UInt8) (n:Int) (t:List UInt8) (o1 o2:Int) (k:List (List UInt8)) (h0 : -9223372036854775808<=n) (h1:n<=9223372036854775807) :
  (xf op nm n t o1 o2 k).length<=22+nm.length+4 * t.length+(k.map fun s=>s.length+2).sum:=by
 have a1:=itoa_len h0 h1;have a2:=quote_len t;have a3:=glue_len k;have a4:=two_len k;have a5:=sum_two k;have a6:=glue_tail k;have a7:=sgn_len op;have p1:=par_len 7 o1 (k.headD []);have p2:=par_len 3 o1 (k.headD []);have p3:=par_len 8 o1 (k.headD []);have p4:=par_len (lft op) o1 (k.headD []);have p5:=par_len (lev op+1) o2 (k.tail.headD []);unfold xf
 repeat' with_reducible apply ite_le
 all_goals (try simp only [List.length_cons,List.length_append,List.length_nil])
 all_goals omega
theorem X_len (v:N) (h:nk v=true):(X v).length+2<=32 * ms v:=by
 induction v using nInd with
 | h op nm n t l ih =>
  rw [nk,Bool.and_eq_true,Bool.and_eq_true,decide_eq_true_eq,decide_eq_true_eq] at h;have h2:=xf_len op nm n t (op0 l) (op0 l.tail) (Xs l) h.1.1 h.1.2;rw [X_mk,ms_mk];have:∀ k:List N,(∀ v∈k,v∈l)->((Xs k).map fun s=>s.length+2).sum<=32 * mss k:=by
   intro k;induction k with
   | nil=>intro _;rw [Xs,mss_nil];simp
   | cons v k ih2 =>
    intro hs;have h3:=ih v (hs v (by simp)) (nks_mem h.2 (hs v (by simp)))
    have h4:=ih2 fun u hu=>hs u (by simp [hu])
    rw [Xs,mss_cons,List.map_cons,List.sum_cons];omega
  have:=this l fun _ h=>h
  omega
theorem sp_len (n:Nat):(sp n).length=n:=List.length_replicate
theorem lines_len (i:Nat):∀ k:List (List UInt8),(lines i k).length=(k.map fun s=>s.length+i+3).sum
 | []=>rfl
 | a::l=>by
  have:=lines_len i l;unfold lines at this |-
  rw [List.flatMap_cons,List.length_append,this,List.map_cons,List.sum_cons];simp only [List.length_append,sp_len,List.length_cons,List.length_nil];omega
theorem sum_le {l:List N} {f c:N->Nat} (h:∀ v∈l,f v<=c v):(l.map f).sum<=(l.map c).sum:=by
 induction l with
 | nil=>simp
 | cons v l ih =>
  have h1:=h v (by simp)
  have h2:=ih fun u hu=>h u (by simp [hu])
  simp only [List.map_cons,List.sum_cons];omega
theorem pick_len {l:List N} {f g:N->List UInt8} {c:N->Nat} (hf:∀ v∈l,(f v).length+2<=c v) (hg:∀ v∈l,(g v).length<=c v) :
  (k0 (l.map f)).length+(k1 (l.map g)).length+(k2 (l.map g)).length<=(l.map c).sum/\(k0 (l.map g)).length+(k1 (l.map g)).length<=(l.map c).sum:=by
 match l,hf,hg with
 | [],_,_=>simp [k0,k1,k2]
 | [a],hf,hg =>
  have:=hf a (by simp);have:=hg a (by simp)
  simp [k0,k1,k2];omega
 | [a,b],hf,hg =>
  have:=hf a (by simp);have:=hg a (by simp);have:=hg b (by simp)
  simp [k0,k1,k2];omega
 | a::b::d::r,hf,hg =>
  have:=hf a (by simp);have:=hg a (by simp);have:=hg b (by simp);have:=hg d (by simp)
  simp [k0,k1,k2];omega
theorem pf_len (op:Int) (nm:List UInt8) (i:Nat) (l:List N) (c:N->Nat) (hx:∀ v∈l,(X v).length+2<=c v) (ha:∀ v∈l,(P v i).length<=c v) (hb:∀ v∈l,(P v (i+2)).length+i+3<=c v) :
  (pf op nm i (l.map X) (Ps l i) (Ps l (i+2))).length<=24+i+nm.length+(l.map c).sum:=by
 rw [Ps_map,Ps_map];obtain⟨a1,a2⟩:=pick_len (f:=X) (g:=fun v=>P v i) hx ha
 have a3:(lines i (l.map fun v=>P v (i+2))).length<=(l.map c).sum:=by
  rw [lines_len,List.map_map];exact sum_le hb
 have a6:(glue (l.map X)).length<=(l.map c).sum:=by
  have:=glue_len (l.map X);rw [List.map_map] at this;exact Nat.le_trans this (sum_le hx)
 have a4:=sp_len i;have a7:(if (l.map fun v=>P v i).length < 3 then [] else [32,101,108,115,101,32]++k2 (l.map fun v=>P v i)).length<=6+(k2 (l.map fun v=>P v i)).length:=by
  apply ite_le
  ·
   simp
  ·
   simp only [List.length_append,List.length_cons,List.length_nil];omega
 have a8:(if nm=[] then [] else nm++[32,61,32]).length<=3+nm.length:=by
  apply ite_le
  ·
   simp
  ·
   simp only [List.length_append,List.length_cons,List.length_nil];omega
 unfold pf blk
 repeat' with_reducible apply ite_le
 all_goals (try simp only [List.length_cons,List.length_append,List.length_nil])
 all_goals omega
theorem sum_kk {K:Nat}:∀ k:List N,(k.map fun v=>K * ms v).sum=K * mss k
 | []=>by rw [mss_nil];simp
 | v::k=>by rw [List.map_cons,List.sum_cons,sum_kk k,mss_cons,Nat.mul_add]
theorem depth_le {v:N} {l:List N} (h:v∈l):N.depth v<=N.depthL l:=by
 induction l with
 | nil=>cases h
 | cons u l ih =>
  rw [N.depthL];rcases List.mem_cons.1 h with rfl | h
  ·
   exact Nat.le_max_left _ _
  ·
   exact Nat.le_trans (ih h) (Nat.le_max_right _ _)
theorem P_len (v:N) (h:nk v=true):∀ i K:Nat,64+4 * i+8 * N.depth v<=K->(P v i).length+i+4<=K * ms v:=by
 induction v using nInd with
 | h op nm n t l ih =>
  intro i K hK;rw [nk,Bool.and_eq_true,Bool.and_eq_true,decide_eq_true_eq,decide_eq_true_eq] at h;rw [N.depth_mk] at hK;rw [P_mk];have hv:∀ v∈l,(X v).length+2<=K * ms v/\(P v i).length<=K * ms v/\(P v (i+2)).length+i+3<=K * ms v:=fun v hv=>by
   have hnk:=nks_mem h.2 hv;have hd:=depth_le hv;have g1:=ih v hv hnk i K (by omega)
   have g2:=ih v hv hnk (i+2) K (by omega)
   have g3:=X_len v hnk;have q3:32 * ms v<=K * ms v:=Nat.mul_le_mul_right _ (by omega)
   omega
  have h2:=pf_len op nm i l (fun v=>K * ms v) (fun v h=>(hv v h).1) (fun v h=>(hv v h).2.1) (fun v h=>(hv v h).2.2)
  rw [sum_kk] at h2;have h4:K * ms (.mk op nm n t l)=K+K * nm.length+K * t.length+K * mss l:=by rw [ms_mk,Nat.mul_add,Nat.mul_add,Nat.mul_add,Nat.mul_one]
  have h5:nm.length<=K * nm.length:=Nat.le_mul_of_pos_left _ (by omega)
  rw [h4];omega
theorem D_len (v:N) (h:nk v=true) (K:Nat) (hK:64+8 * N.depth v<=K):(D v).length+1<=K * ms v:=by
 obtain⟨op,nm,n,t,l⟩:=v;rw [nk,Bool.and_eq_true,Bool.and_eq_true,decide_eq_true_eq,decide_eq_true_eq] at h;rw [N.depth_mk] at hK;have hv:∀ v∈l,(X v).length+2<=K * ms v/\(P v 0).length+4<=K * ms v:=fun v hv=>by
  have hnk:=nks_mem h.2 hv;have hd:=depth_le hv;have g1:=P_len v hnk 0 K (by omega)
  have g3:=X_len v hnk;have q3:32 * ms v<=K * ms v:=Nat.mul_le_mul_right _ (by omega)
  omega
 have h4:K * ms (.mk op nm n t l)=K+K * nm.length+K * t.length+K * mss l:=by rw [ms_mk,Nat.mul_add,Nat.mul_add,Nat.mul_add,Nat.mul_one]
 have h5:nm.length<=K * nm.length:=Nat.le_mul_of_pos_left _ (by omega)
 have h6:t.length<=K * t.length:=Nat.le_mul_of_pos_left _ (by omega)
 have ha:(k0 (l.map X)).length<=K * mss l:=by
  have:=(pick_len (f:=X) (g:=fun _=>[]) (c:=fun v=>K * ms v) (fun v h=>(hv v h).1) (fun v h=>Nat.zero_le _)).1
  rw [sum_kk] at this;omega
 have hb:(glue (l.dropLast.map X)).length+((l.getLast?.map fun b=>P b 0).getD []).length<=K * mss l:=by
  rcases List.eq_nil_or_concat l with e | ⟨r,b,e⟩
  ·
   subst e;simp [glue]
  ·
   subst e;rw [List.concat_eq_append,List.dropLast_concat,List.getLast?_concat];have h7:=glue_len (r.map X);have h8:((r.map X).map fun s=>s.length+2).sum<=K * mss r:=by
    rw [List.map_map,<- sum_kk];exact sum_le fun v h=>(hv v (by simp [h])).1
   have h9:=(hv b (by simp)).2
   have h10:mss (r++[b])=mss r+ms b:=by
    clear hv h7 h8 h h4 ha hK;induction r with
    | nil=>rw [List.nil_append,mss_cons,mss_nil];omega
    | cons a r ih=>rw [List.cons_append,mss_cons,mss_cons,ih];omega
   rw [h10,Nat.mul_add];simp only [Option.map_some,Option.getD_some];omega
 have hc:(if l.length=1 then ([]:List UInt8) else [99,104,101,99,107,32]++(k0 (l.map fun b=>P b 0)++[32])).length+((l.getLast?.map fun b=>P b 0).getD []).length<=7+K * mss l:=by
  match l,hv with
  | [],_=>simp [k0]
  | [a],hv =>
   have:=(hv a (by simp)).2
   rw [mss_cons,mss_nil];simp;omega
  | a::b::r,hv =>
   have g1:=(hv a (by simp)).2
   have g2:=(hv ((b::r).getLast (by simp)) (by simp [List.getLast_mem])).2
   have g3:=mss_mem (List.getLast_mem (l:=b::r) (by simp))
   have g4:K * ms ((b::r).getLast (by simp))<=K * mss (b::r):=Nat.mul_le_mul_left _ g3
   rw [mss_cons,Nat.mul_add,List.getLast?_eq_some_getLast (by simp),List.getLast_cons (by simp)]
   simp only [k0,List.map_cons,List.headD_cons,Option.map_some,Option.getD_some,List.length_cons];rw [if_neg (by omega)]
   simp only [List.length_append,List.length_cons,List.length_nil];omega
 rw [h4];have h7:(if N.op (.mk op nm n t l)=63 then ([115,105,103,110,97,108,32]:List UInt8) else if N.op (.mk op nm n t l)=64 then [113,117,101,114,121,32] else [117,112,100,97,116,101,32]).length<=7 :=
  ite_le (by decide) (ite_le (by decide) (by decide))
 have hc2:(if (N.l (.mk op nm n t l)).length=1 then ([]:List UInt8) else [99,104,101,99,107,32]++(k0 ((N.l (.mk op nm n t l)).map fun b=>P b 0)++[32])).length+(((N.l (.mk op nm n t l)).getLast?.map fun b=>P b 0).getD []).length<=7+K * mss l:=hc
 unfold D;refine Nat.le_trans (Nat.add_le_add_right (ite_le (k:=K+K * nm.length+K * t.length+K * mss l - 1) ?_ (ite_le ?_ ?_)) 1) (by omega)
 ·
  simp only [N.op,N.nm,N.t,N.l];simp only [List.length_append,List.length_cons,List.length_nil];omega
 ·
  simp only [N.op,N.nm,N.t,N.l];simp only [List.length_append,List.length_cons,List.length_nil];omega
 ·
  simp only [N.nm,N.t];simp only [List.length_append,List.length_cons,List.length_nil];omega
theorem G_len (v:N) (h:nk v=true) (K:Nat) (hK:64+8 * N.depth v<=K):(G v).length<=K * ms v:=by
 obtain⟨op,nm,n,t,l⟩:=v;rw [nk,Bool.and_eq_true] at h;rw [N.depth_mk] at hK;rw [ms_mk];have hs:∀ k:List N,(∀ v∈k,v∈l)->(k.flatMap fun d=>D d++[10]).length<=K * mss k:=by
  intro k;induction k with
  | nil=>intro _;simp
  | cons v k ih2 =>
   intro hk;have hd:=depth_le (hk v (by simp))
   have h1:=D_len v (nks_mem h.2 (hk v (by simp))) K (by omega)
   have h2:=ih2 fun u hu=>hk u (by simp [hu])
   rw [List.flatMap_cons,List.length_append,List.length_append,mss_cons,Nat.mul_add];simp only [List.length_cons,List.length_nil];omega
 have h1:=hs l fun _ h=>h
 have h2:K * mss l<=K * (1+nm.length+t.length+mss l):=Nat.mul_le_mul_left _ (by omega)
 exact Nat.le_trans h1 h2
end Sy
end Go.Proofs.YtgeppafcemeidaaGreatDoor
namespace Go.Proofs.YtgeppafcemeidaaGreatDoor
open Go.RowKit
theorem step_appB {ops:Array Oper} {o:Oper} {a:Act} {w:World} {K:Act->World->Prop} {Q:Exit->Act->World->Prop} {E:Prop} (hgd:o.guard=none) (s x:Operand)
  (ho:o.op=.call { callee:=.builtin .append,args:=#[s,x],argTypes:=#[70,70] })
  (base:Nat) (v y:Value) (xs news:List UInt8) (hs:a.eval s=v) (hown:OwnB w base v xs) (hx:a.eval x=y) (hrd:Bs w y news)
  (hl:xs.length+news.length<=140737488355328) (hbase:base<=w.heap.size)
  (h:∀ v' w',OwnB w' base v' (xs++news)->Below base w w'->K (a.put o.dst v') w') :
  if Region.wanted o (yielded ops a.tmps)=true then Oper.wp Tryz.prog o a w K Q else E:=by
 have hw:Region.wanted o (yielded ops a.tmps)=true:=by simp [Region.wanted,hgd]
 rw [if_pos hw];obtain⟨i0,hi,hz0,hz1,hz2⟩:=info_parts Tryz.info5;refine wp_app w s x 70 ho base 5 i0 (.int .u8 0) 1 Tryz.underlying70 hi hz0 hz1 hz2 rfl v y (xs.map by8) (news.map by8) hs hown hx hrd (one8 news) (by simp;omega) (by simp;omega) hbase ?_
 intro v' w' h1 h2 _ _;exact h v' w' (by unfold OwnB;rw [List.map_append];exact h1) h2
theorem lit2 (w:World) (c d:UInt8):Bs (w.alloc (.cells #[.int .u8 (c.toNat:Int),.int .u8 (d.toNat:Int)] 5)) (.slice (some ⟨w.heap.size,0,none⟩) 2 2) [c,d]:=by
 have:=lit_rd w ([c,d].map by8) (by simp [maxLen])
 simpa [Bs,by8] using this
theorem lit4 (w:World) (a b c d:UInt8):Bs (w.alloc (.cells #[.int .u8 (a.toNat:Int),.int .u8 (b.toNat:Int),.int .u8 (c.toNat:Int),.int .u8 (d.toNat:Int)] 5)) (.slice (some ⟨w.heap.size,0,none⟩) 4 4) [a,b,c,d]:=by
 have:=lit_rd w ([a,b,c,d].map by8) (by simp [maxLen])
 simpa [Bs,by8] using this
theorem hexget:∀ (i:Nat) (h:i < 16),(⟨#[48,49,50,51,52,53,54,55,56,57,97,98,99,100,101,102]⟩:ByteArray)[i]'h=Tk.hexd i:=by
 decide
theorem Bs.drew {w:World} {v:Value} {l:List UInt8} (h:Bs w v l):Bs w.drew v l:=h
def GrowB (w:World) (base:Nat) (l:List UInt8) (e:Ending) (w':World):Prop:=∃ v,e=.returned v/\OwnB w' base v l/\Below base w w'
theorem appChar_any (base:Nat) (v:Value) (pre:List UInt8) (c:UInt8) (w:World) (h:OwnB w base v pre) (hb:base<=w.heap.size) (hl:pre.length<=1000000000) :
  Calls Tryz.prog 119 #[v,.int .u8 (c.toNat:Int)] w (GrowB w base (pre++Tk.qc c)):=by
 have HT:Hid (Tk.qc c=if c.toNat=34\/c.toNat=92 then [92,c] else if c.toNat=10 then [92,110] else if c.toNat=9 then [92,116]
  else if c.toNat < 32\/c.toNat > 126 then [92,120,Tk.hexd (c.toNat / 16),Tk.hexd (c.toNat % 16)] else [c]):=rfl
 generalize Tk.qc c=qq at *;have HO:=hid h;have hcn:=c.toNat_lt;clear h;have HL2:=hid (lit2 w 92 c);by_cases h34:c.toNat=34
 ·
  rw [if_pos (.inl h34)] at HT;have i34:(c.toNat:Int)=34:=by omega
  rw [i34] at HL2;go_enter Tryz.func119,Tryz.ntmps119;go_wp2_with (at_builtin;refine wpList_appB rfl (.tmp 12) (.tmp 14) rfl base _ _ pre [92,c] rfl (Own.alloc HO.out _) rfl HL2.out (by simp;omega) (by simp;omega) ?_;intro v' w' hown' hb')
  go_ret;rw [HT.out];exact⟨v',rfl,hown',((Below.refl _ _).alloc hb _).trans hb'⟩
 have i34:((c.toNat:Int)==34)=false:=by simp;omega
 by_cases h92:c.toNat=92
 ·
  rw [if_pos (.inr h92)] at HT;have i92:(c.toNat:Int)=92:=by omega
  rw [i92] at HL2;rw [i92] at i34;go_enter Tryz.func119,Tryz.ntmps119;go_wp2_with (at_builtin;refine wpList_appB rfl (.tmp 12) (.tmp 14) rfl base _ _ pre [92,c] rfl (Own.alloc HO.out _) rfl HL2.out (by simp;omega) (by simp;omega) ?_;intro v' w' hown' hb')
  go_ret;rw [HT.out];exact⟨v',rfl,hown',((Below.refl _ _).alloc hb _).trans hb'⟩
 have i92:((c.toNat:Int)==92)=false:=by simp;omega
 rw [if_neg (by omega)] at HT
 by_cases h10:c.toNat=10
 ·
  rw [if_pos h10] at HT;have i10:(c.toNat:Int)=10:=by omega
  rw [i10] at i34 i92;go_enter Tryz.func119,Tryz.ntmps119;go_wp2_with (at_builtin;refine wpList_appS rfl (.tmp 19) (.const (.string ⟨#[92,110]⟩)) rfl base _ pre rfl HO.out ⟨#[92,110]⟩ rfl (by simp [ByteArray.size];omega) hb ?_;intro v' w' hown' hb')
  go_ret;rw [HT.out];exact⟨v',rfl,hown',hb'⟩
 have i10:¬ (c.toNat:Int)=10:=by omega
 rw [if_neg h10] at HT;by_cases h9:c.toNat=9
 ·
  rw [if_pos h9] at HT;have i9:(c.toNat:Int)=9:=by omega
  rw [i9] at i34 i92;go_enter Tryz.func119,Tryz.ntmps119;go_wp2_with (at_builtin;refine wpList_appS rfl (.tmp 24) (.const (.string ⟨#[92,116]⟩)) rfl base _ pre rfl HO.out ⟨#[92,116]⟩ rfl (by simp [ByteArray.size];omega) hb ?_;intro v' w' hown' hb')
  go_ret;rw [HT.out];exact⟨v',rfl,hown',hb'⟩
 have i9:¬ (c.toNat:Int)=9:=by omega
 rw [if_neg h9] at HT;by_cases hr:c.toNat < 32\/c.toNat > 126
 ·
  rw [if_pos hr] at HT;have hn1:c.toNat / 16 < 16:=by omega
  have hn2:c.toNat % 16 < 16:=by omega
  have HL4:=hid (lit4 w 92 120 ((⟨#[48,49,50,51,52,53,54,55,56,57,97,98,99,100,101,102]⟩:ByteArray)[c.toNat / 16]'hn1) ((⟨#[48,49,50,51,52,53,54,55,56,57,97,98,99,100,101,102]⟩:ByteArray)[c.toNat % 16]'hn2));have HX:Hid (Tk.hexd (c.toNat / 16)=(⟨#[48,49,50,51,52,53,54,55,56,57,97,98,99,100,101,102]⟩:ByteArray)[c.toNat / 16]'hn1/\Tk.hexd (c.toNat % 16)=(⟨#[48,49,50,51,52,53,54,55,56,57,97,98,99,100,101,102]⟩:ByteArray)[c.toNat % 16]'hn2):=⟨(hexget _ hn1).symm,(hexget _ hn2).symm⟩;rw [HX.out.1,HX.out.2] at HT;have hw1:IntKind.u8.wrap ((c.toNat:Int) / 16)=(c.toNat:Int) / 16:=by unfold IntKind.wrap;simp [IntKind.bits,IntKind.signed];omega
  have hw2:IntKind.u8.wrap ((c.toNat:Int) % 16)=(c.toNat:Int) % 16:=by unfold IntKind.wrap;simp [IntKind.bits,IntKind.signed];omega
  have htm:(c.toNat:Int).tmod 16=(c.toNat:Int) % 16:=rfl;have ht1:((c.toNat:Int) / 16).toNat=c.toNat / 16:=by omega
  have ht2:((c.toNat:Int) % 16).toNat=c.toNat % 16:=by omega
  have hq0:0<=(c.toNat:Int) / 16:=by omega
  have hq1:(c.toNat:Int) / 16 < 16:=by omega
  have hq2:0<=(c.toNat:Int) % 16:=by omega
  have hq3:(c.toNat:Int) % 16 < 16:=by omega
  rcases (by omega:(c.toNat:Int) < 32\/(¬ (c.toNat:Int) < 32/\(126:Int) < (c.toNat:Int))) with j1 | ⟨j1,j2⟩
  ·
   clear hr;go_enter Tryz.func119,Tryz.ntmps119;go_wp2_with fail
   go_region_law (refine step_appB (by rfl) _ _ (by rfl) base _ _ pre [92,120,(⟨#[48,49,50,51,52,53,54,55,56,57,97,98,99,100,101,102]⟩:ByteArray)[c.toNat / 16]'hn1,(⟨#[48,49,50,51,52,53,54,55,56,57,97,98,99,100,101,102]⟩:ByteArray)[c.toNat % 16]'hn2] (by rfl) (Own.alloc HO.out _) (by rfl) HL4.out.drew (by simp;omega) (by simp;omega) ?_;intro v' w' hown' hb')
   all_goals go_wp2_with fail
   all_goals go_ret
   all_goals rw [HT.out]
   all_goals exact⟨v',rfl,hown',(((Below.refl _ _).alloc hb _).drew).trans hb'⟩
  ·
   have j3:decide ((c.toNat:Int) < 32)=false:=by simp;omega
   clear hr;go_enter Tryz.func119,Tryz.ntmps119;go_wp2_with fail
   go_region_law (refine step_appB (by rfl) _ _ (by rfl) base _ _ pre [92,120,(⟨#[48,49,50,51,52,53,54,55,56,57,97,98,99,100,101,102]⟩:ByteArray)[c.toNat / 16]'hn1,(⟨#[48,49,50,51,52,53,54,55,56,57,97,98,99,100,101,102]⟩:ByteArray)[c.toNat % 16]'hn2] (by rfl) (Own.alloc HO.out _) (by rfl) HL4.out.drew (by simp;omega) (by simp;omega) ?_;intro v' w' hown' hb')
   all_goals go_wp2_with fail
   all_goals go_ret
   all_goals rw [HT.out]
   all_goals exact⟨v',rfl,hown',(((Below.refl _ _).alloc hb _).drew).trans hb'⟩
 ·
  rw [if_neg hr] at HT;have j1:¬ (c.toNat:Int) < 32:=by omega
  have j2:¬ (126:Int) < (c.toNat:Int):=by omega
  have j3:decide ((c.toNat:Int) < 32)=false:=by simp;omega
  clear hr;go_enter Tryz.func119,Tryz.ntmps119;go_wp2_with (at_builtin;refine wpList_app8 rfl (.tmp 42) (.tmp 44) rfl base _ pre _ c rfl rfl HO.out rfl (by omega) hb ?_;intro v' w' hown' hb')
  go_ret;rw [HT.out];exact⟨v',rfl,hown',hb'⟩
end Go.Proofs.YtgeppafcemeidaaGreatDoor
namespace Go.Proofs.YtgeppafcemeidaaGreatDoor
open Go.RowKit
theorem Bs.form' {w:World} {v:Value} {l:List UInt8} (h:Bs w v l):∃ A n c,v=.slice A n c:=by
 obtain⟨A,c,hv⟩:=h.form;exact⟨A,_,c,hv⟩
def QuoteRel (w:World) (l:List UInt8) (v vi:Value) (wr:World):Prop :=
 ∃ k:Nat,k<=l.length/\vi=.int .i64 (k:Int)/\Hid (OwnB wr w.heap.size v (34::(l.take k).flatMap Tk.qc))/\Hid (Below w.heap.size w wr)
theorem quote_any (s:ByteArray) (w:World) (hs:s.size<=100000000) :
  Calls Tryz.prog 70 #[.string s] w fun e w'=>e=.returned (.string (byS (Tk.quote s.data.toList)))/\Below w.heap.size w w':=by
 have hlen:s.data.toList.length=s.size:=by simp
 have H0:Hid (QuoteRel w s.data.toList (.slice (some ⟨w.heap.size,0,none⟩) 1 1) (.int .i64 0) (w.alloc (.cells #[.int .u8 34] 5))) :=
  ⟨0,Nat.zero_le _,rfl,(Own.lit (base:=w.heap.size) (e:=5) w [by8 34] (Nat.le_refl _) (by simp [maxLen])),(Below.refl _ _).alloc (Nat.le_refl _) _⟩
 go_enter Tryz.func70,Tryz.ntmps70;go_wp2_with fail
 go_loopw [3,8] (fun v3 v8 wr=>QuoteRel w s.data.toList v3 v8 wr) (fun _ v8 _=>s.size - (intOf v8).toNat)
 case atStart=>exact H0.out
 case round =>
  obtain⟨k,hk,rfl,HO,HB⟩:=hrel;rw [hlen] at hk;have HS:=hid HB.out.size;have hbnd:((s.data.toList.take k).flatMap Tk.qc).length<=400000000:=by
   have h1:=Tk.qcs_len (s.data.toList.take k);have h2:(s.data.toList.take k).length<=k:=List.length_take_le _ _;omega
  by_cases hlt:k < s.size
  ·
   have HC:=hid (appChar_any w.heap.size u3 _ s[k] wr HO.out HS.out (by simp only [List.length_cons];omega))
   have HST:Hid (34::(s.data.toList.take (k+1)).flatMap Tk.qc=34::(s.data.toList.take k).flatMap Tk.qc++Tk.qc s[k]):=by
    show _=_;rw [Tk.take_step (l:=s.data.toList) (k:=k) (by rw [hlen];exact hlt)]
    rfl
   clear hbnd;go_wp2_with fail;refine HC.out.mono ?_;rintro e w1 ⟨v1,rfl,ho1,hb1⟩;have HO1:=hid ho1;clear ho1;go_wp2_with fail;refine⟨⟨k+1,by rw [hlen];omega,by go_num,by rw [HST.out];exact HO1.out,HB.out.trans hb1⟩,?_⟩
   simp [intOf];omega
  ·
   have hk2:k=s.size:=by omega
   subst hk2;have htk:Hid (s.data.toList.take s.size=s.data.toList):=List.take_of_length_le (by rw [hlen];exact Nat.le_refl _)
   rw [htk.out] at HO hbnd;have hbnd2:(34::s.data.toList.flatMap Tk.qc).length<=400000001:=by simp only [List.length_cons];omega
   clear hbnd;have HE:Hid (Tk.quote s.data.toList=(34::s.data.toList.flatMap Tk.qc)++[34]):=rfl;generalize 34::s.data.toList.flatMap Tk.qc=pre at *;go_wp2_with (at_builtin;refine wpList_app8 rfl (.tmp 17) (.tmp 18) rfl w.heap.size u3 pre 34 34 rfl rfl HO.out rfl (by omega) HS.out ?_;intro v' w' hown' hb';obtain⟨A',n',c',hv'⟩:=(OwnB.bs hown').form';subst hv';have hcv:=(OwnB.bs hown').conv;unfold strOf at hcv)
   go_ret;exact⟨by rw [HE.out];rfl,HB.out.trans hb'⟩
end Go.Proofs.YtgeppafcemeidaaGreatDoor
namespace Go.Proofs.YtgeppafcemeidaaGreatDoor
open Go.RowKit
open Sy (N)
def Wr (w:World) (g:Nat) (vb:Option Nat) (T:List UInt8) (d:Nat):Prop :=
 ∃ v,w.heap[g]? = some (.cells #[v,.int .i64 (d:Int)] 72 (0,0))/\OwnB w 0 v T/\v.ownBlock=vb/\vb≠some g
structure Wd (g:Nat) (vb:Option Nat) (w w':World) (vb':Option Nat):Prop where
 os:w'.os=w.os
 tape:w'.tape=w.tape
 output:w'.output=w.output
 size:w.heap.size<=w'.heap.size
 block:∀ k,k < w.heap.size->k≠g->some k≠vb->w'.heap[k]? = w.heap[k]?
 own:vb'=vb\/∃ k,vb'=some k/\w.heap.size<=k
section
variable {w w' w1:World} {g d:Nat} {vb vb1 vb':Option Nat} {T:List UInt8}
theorem Wd.refl:Wd g vb w w vb:=⟨rfl,rfl,rfl,Nat.le_refl _,fun _ _ _ _=>rfl,.inl rfl⟩
theorem Wd.trans (a:Wd g vb w w1 vb1) (b:Wd g vb1 w1 w' vb'):Wd g vb w w' vb':=by
 refine⟨b.os.trans a.os,b.tape.trans a.tape,b.output.trans a.output,Nat.le_trans a.size b.size,fun k hk hg hv=>?_,?_⟩
 ·
  refine(b.block k (Nat.lt_of_lt_of_le hk a.size) hg ?_).trans (a.block k hk hg hv);rcases a.own with e | ⟨j,e,hj⟩
  ·
   rw [e];exact hv
  ·
   rw [e];intro e2;injection e2;omega
 ·
  rcases b.own with e | ⟨j,e,hj⟩
  ·
   rw [e];exact a.own
  ·
   exact .inr ⟨j,e,Nat.le_trans a.size hj⟩
theorem Wd.of_below (a:Below w.heap.size w w'):Wd g vb w w' vb:=⟨a.os,a.tape,a.output,a.size,fun k hk _ _=>a.block k hk,.inl rfl⟩
theorem Wd.below {B:Nat} (a:Wd g vb w w' vb') (hg:B<=g) (hv:∀ k,vb=some k->B<=k) (hB:B<=w.heap.size):Below B w w' :=
 ⟨a.os,a.tape,a.output,a.size,fun k hk=>a.block k (by omega) (by omega) (fun e=>by have:=hv k e.symm;omega)⟩
theorem Wr.lt (h:Wr w g vb T d):g < w.heap.size:=by
 obtain⟨v,h,_⟩:=h;exact(Array.getElem?_eq_some_iff.1 h).1
theorem Wr.own (h:Wr w g vb T d):∀ k,vb=some k->k < w.heap.size:=by
 obtain⟨v,_,h,rfl,_⟩:=h;exact fun k hk=>(World.ownsRow.lt h k hk).2
theorem Wr.below (h:Wr w g vb T d) (hb:Below w.heap.size w w'):Wr w' g vb T d:=by
 have hl:=h.lt;obtain⟨v,h1,h2,h3⟩:=h;exact⟨v,(hb.block g hl).trans h1,h2.below hb,h3⟩
def Sf (S:Nat->Prop) (w:World) (g:Nat) (vb:Option Nat):Prop:=∀ b,S b->b < w.heap.size/\b≠g/\some b≠vb
theorem Sf.step {S:Nat->Prop} (h:Sf S w g vb) (c:Wd g vb w w' vb'):Sf S w' g vb':=fun b hb=>by
 obtain⟨h1,h2,h3⟩:=h b hb;refine⟨Nat.lt_of_lt_of_le h1 c.size,h2,?_⟩;rcases c.own with e | ⟨j,e,hj⟩
 ·
  rw [e];exact h3
 ·
  rw [e];intro e2;injection e2;omega
theorem Sf.cell {S:Nat->Prop} (h:Sf S w g vb) (c:Wd g vb w w' vb'):∀ (p:Addr) u,S p.block->w.cell? p=some u->w'.cell? p=some u:=fun p u hp hc=>by
 obtain⟨h1,h2,h3⟩:=h _ hp;have:=c.block p.block h1 h2 h3;unfold World.cell? at hc |-
 rw [this];exact hc
theorem NA.wd {S:Nat->Prop} {a:Value} {v:N} (h:NA w S a v) (hS:Sf S w g vb) (c:Wd g vb w w' vb'):NA w' S a v:=h.keep (fun _ h _=>h) (hS.cell c)
theorem KR.wd {S:Nat->Prop} {a:Value} {l:List N} (h:KR w S a l) (hS:Sf S w g vb) (c:Wd g vb w w' vb'):KR w' S a l:=h.keep (fun _ h _=>h) (hS.cell c)
theorem RdN.wd {S:Nat->Prop} {size n:Nat} {v:Value} {xs:List Value} (h:RdN w S size v n xs) (hS:Sf S w g vb) (c:Wd g vb w w' vb') (hz:0 < size):RdN w' S size v n xs:=h.keep (fun _ h _=>h) (hS.cell c) hz
theorem NsC.wd {S:Nat->Prop} {l:List N} {cs:List Value} (h:NsC w S l cs) (hS:Sf S w g vb) (c:Wd g vb w w' vb'):NsC w' S l cs:=h.keep (fun _ h _=>h) (hS.cell c)
def WP (w:World) (g:Nat) (vb:Option Nat) (T s:List UInt8) (d:Nat):Ending->World->Prop :=
 fun e w'=>e=.returned (.tuple #[])/\∃ vb',Wr w' g vb' (T++s) d/\Wd g vb w w' vb'
end
def GoodW (g:Nat) (vb:Option Nat) (w:World):Prop:=∀ w' vb',Wd g vb w w' vb'->Good w'
theorem GoodW.step {g:Nat} {vb vb':Option Nat} {w w':World} (h:GoodW g vb w) (c:Wd g vb w w' vb'):GoodW g vb' w':=fun _ _ hW=>h _ _ (c.trans hW)
theorem GoodW.good {g:Nat} {vb:Option Nat} {w:World} (h:GoodW g vb w):Good w:=h _ _ Wd.refl
structure Wq (w:World) (g:Nat) (vb:Option Nat) (S:Nat->Prop) (T:List UInt8) (d:Nat):Prop where
 hw:Wr w g vb T d
 sf:Sf S w g vb
 gd:GoodW g vb w
theorem Wq.step {w w1:World} {g d d1:Nat} {vb v1:Option Nat} {S:Nat->Prop} {T T1:List UInt8} (H:Wq w g vb S T d) (h1:Wr w1 g v1 T1 d1) (h2:Wd g vb w w1 v1):Wq w1 g v1 S T1 d1:=⟨h1,H.sf.step h2,H.gd.step h2⟩
theorem Wq.below {w w1:World} {g d:Nat} {vb:Option Nat} {S:Nat->Prop} {T:List UInt8} (H:Wq w g vb S T d) (hb:Below w.heap.size w w1):Wq w1 g vb S T d:=H.step (H.hw.below hb) (Wd.of_below hb)
theorem run_appStr {P:Program} (w:World) (t u ty e:TypeId) (i:TypeInfo) (ht:P.underlying t=some (.slice e)) (hu:P.underlying u=some .string) (hi:P.info? e=some i) (hz:i.zero=some (.int .u8 0))
  (hsize:i.size=1) (hby:i.bytes=1) (v:Value) (xs:List Value) (hown:Own w 0 e v xs) (s:ByteArray) (h63:xs.length+s.size<=140737488355328) :
  ∃ v' w',(Builtin.append_ #[t,u] ty #[v,.string s]).run P w=.ok v' w'/\Own w' 0 e v' (xs++Lib.strCells s)/\w.grownBy w' v.ownBlock/\(v'.ownBlock=v.ownBlock\/∃ k,v'.ownBlock=some k/\w.heap.size<=k):=by
 have hown2:w.ownsRow 0 e 1 v xs.length xs:=hown;obtain⟨v',w',hr,h2,h3,h4⟩:=Lib.run_append_own_string (P:=P) w 0 t u ty e i ht hu hi hz hsize hby v xs.length xs hown2 s (by unfold maxLen;omega) h63 (Nat.zero_le _)
 refine⟨v',w',hr,by simpa [Own,Lib.strCells_length] using h2,h3,?_⟩
 rcases hown2.2 with⟨rfl,h0⟩ | ⟨g,cap,cur,rfl,hbg,hg,hnc,hcm,hcs,htake⟩
 ·
  have hx:xs=[]:=List.eq_nil_of_length_eq_zero h0;subst hx;obtain⟨v2,w2,hr2,g2,_,_⟩:=Lib.run_append_own_string (P:=P) w w.heap.size t u ty e i ht hu hi hz hsize hby (.slice none 0 0) 0 [] (World.ownsRow_nil _ _ _ _) s (by unfold maxLen;simp only [List.length_nil] at h63;omega) (by simpa using h63) (Nat.le_refl _)
  rw [hr] at hr2;injection hr2 with e1 e2;subst e1 e2;cases hk:v'.ownBlock with
  | none=>exact .inl rfl
  | some k=>exact .inr ⟨k,rfl,(World.ownsRow.lt g2 k hk).1⟩
 ·
  by_cases hroom:xs.length+s.size<=cap
  ·
   have hr2:=Lib.run_append_room_string (P:=P) w t u ty e i ht hu hi hsize g xs.length cap cur hg s hroom (by rw [hcs];omega)
   rw [hr] at hr2;injection hr2 with e1 _;subst e1;exact .inl rfl
  ·
   have holds:∀ j u,xs[j]? = some u->w.cell? ((⟨g,0,none⟩:Addr).add j)=some u:=World.ownsRow.cells hown2 (g:=g) rfl;have hr2:=Lib.run_append_grow_string (P:=P) w t u ty e i (.int .u8 0) ht hu hi hz ⟨g,0,none⟩ xs.length cap xs (by rw [hsize];omega) holds s (by omega) (by omega) (by rw [hby];exact growslice_fits (by omega) (by omega))
   rw [hr] at hr2;injection hr2 with e1 _;subst e1;exact .inr ⟨_,rfl,Nat.le_refl _⟩
end Go.Proofs.YtgeppafcemeidaaGreatDoor
namespace Go.Proofs.YtgeppafcemeidaaGreatDoor
open Go.RowKit
open Sy (N)
theorem qCells_by8 (s:List UInt8):Lib.strCells ⟨s.toArray⟩=s.map by8:=rfl
theorem wpList_appStrB {wr:World} {ops:Array Oper} {rest:List Oper} {o:Oper} {a:Act} {Q:Exit->Act->World->Prop} (hgd:o.guard=none) (sl x:Operand)
  (ho:o.op=.call { callee:=.builtin .append,args:=#[sl,x],argTypes:=#[70,9] })
  (v:Value) (T s:List UInt8) (hs:a.eval sl=v) (hown:OwnB wr 0 v T) (hx:a.eval x=.string ⟨s.toArray⟩) (h63:T.length+s.length<=1099511627776)
  (h:∀ A' n' c' w',OwnB w' 0 (.slice A' n' c') (T++s)->wr.grownBy w' v.ownBlock->((Value.slice A' n' c').ownBlock=v.ownBlock\/∃ k,(Value.slice A' n' c').ownBlock=some k/\wr.heap.size<=k)->wpList Tryz.prog ops Q rest (a.put o.dst (.slice A' n' c')) w'):wpList Tryz.prog ops Q (o::rest) a wr:=by
 obtain⟨i0,hi,hz0,hz1,hz2⟩:=info_parts Tryz.info5;obtain⟨v',w',hr,h2,h3,h4⟩:=run_appStr (P:=Tryz.prog) wr 70 9 o.type 5 i0 Tryz.underlying70 Tryz.underlying9 hi hz0 hz1 hz2 v (T.map by8) hown ⟨s.toArray⟩ (by rw [show (⟨s.toArray⟩:ByteArray).size=s.length by simp [ByteArray.size]];simp only [List.length_map];omega)
 rw [qCells_by8,<- List.map_append] at h2;obtain⟨A',c',rfl⟩:=Own.form h2;refine wpList_plain hgd fun _ hK=>?_
 unfold Oper.wp execOp;simp only [ho,resolve,invoke,builtin,Sem.run_bind,Sem.run_pure,Result.andThen_ok,List.map_toArray,List.map_cons,List.map_nil,hs,hx,hr];exact hK _ _ (h A' _ c' w' h2 h3 h4)
section
variable {w w' w1:World} {g d:Nat} {vb vb1 vb':Option Nat} {T:List UInt8}
theorem Wr.free (h:Wr w g vb T d) (i:Nat):w.frozen? ⟨g,i,none⟩=false:=by
 obtain⟨v,h,_⟩:=h;exact freeAt h i
theorem Wr.text (h:Wr w g vb T d):∃ A n c,w.cell? ⟨g,0,none⟩=some (.slice A n c)/\OwnB w 0 (.slice A n c) T/\(Value.slice A n c).ownBlock=vb:=by
 obtain⟨v,h1,h2,h3,_⟩:=h;obtain⟨A,c,rfl⟩:=Own.form h2;exact⟨A,_,c,by have:=cellAt h1 0;simpa using this,h2,h3⟩
theorem Wr.ind (h:Wr w g vb T d):w.cell? ⟨g,1,none⟩=some (.int .i64 (d:Int)):=by
 obtain⟨v,h1,_⟩:=h;have:=cellAt h1 1;simpa using this
theorem own_other {v:Value} {l:List UInt8} (h:OwnB w 0 v l) (hk:∀ k,k≠g->w'.heap[k]? = w.heap[k]?) (hne:v.ownBlock≠some g):OwnB w' 0 v l:=by
 rcases h.2 with⟨rfl,h0⟩ | ⟨b,cap,cur,rfl,hbg,hg,h1⟩
 ·
  exact⟨h.1,.inl ⟨rfl,h0⟩⟩
 ·
  exact⟨h.1,.inr ⟨b,cap,cur,rfl,hbg,(hk b (fun e=>hne (by rw [e];rfl))).trans hg,h1⟩⟩
theorem Wr.mid {ob:Option Nat} (h:Wr w g vb T d) (hv:ob=vb) (hg:w.grownBy w1 ob):w1.frozen? ⟨g,0,none⟩=false/\∃ u,w1.cell? ⟨g,0,none⟩=some u:=by
 have hlt:=h.lt;obtain⟨u,h1,h2,rfl,h4⟩:=h;rw [hv] at hg;have hb1:w1.heap[g]? = some (.cells #[u,.int .i64 (d:Int)] 72 (0,0)):=(hg.block g hlt (fun e=>h4 e.symm)).trans h1
 exact⟨freeAt hb1 0,u,by have:=cellAt hb1 0;simpa using this⟩
theorem Wr.back {v v':Value} {s:List UInt8} (h:Wr w g vb T d) (hv:v.ownBlock=vb) (ho:OwnB w1 0 v' s) (hg:w.grownBy w1 v.ownBlock) (hb:v'.ownBlock=v.ownBlock\/∃ k,v'.ownBlock=some k/\w.heap.size<=k) :
  Wr (w1.setCell ⟨g,0,none⟩ v') g v'.ownBlock s d/\Wd g vb w (w1.setCell ⟨g,0,none⟩ v') v'.ownBlock:=by
 have hlt:=h.lt;obtain⟨u,h1,h2,rfl,h4⟩:=h;rw [hv] at hg hb;have hne:v'.ownBlock≠some g:=by
  rcases hb with e | ⟨k,e,hk⟩
  ·
   rw [e];exact h4
  ·
   rw [e];intro e2;injection e2;omega
 have hb1:w1.heap[g]? = some (.cells #[u,.int .i64 (d:Int)] 72 (0,0)):=(hg.block g hlt (fun e=>h4 e.symm)).trans h1
 have hoth:∀ k,k≠g->(w1.setCell ⟨g,0,none⟩ v').heap[k]? = w1.heap[k]?:=fun k hk=>Below.heap_setCell w1 ⟨g,0,none⟩ v' k hk
 refine⟨⟨v',?_,?_,rfl,hne⟩,⟨hg.os,hg.tape,hg.output,by have:=hg.size;simp [World.setCell];omega,fun k hk hkg hkv=>(hoth k hkg).trans (hg.block k hk hkv),hb⟩⟩
 ·
  simp only [World.setCell];rw [Array.getElem?_modify];simp only [if_true];rw [hb1];simp
 ·
  exact own_other ho hoth hne
end
section
variable {w w' wr w1:World} {g d:Nat} {vb vb1 vb' vr:Option Nat} {T s:List UInt8}
def QPutRel (w:World) (g:Nat) (vb:Option Nat) (T:List UInt8) (d:Nat) (ss:List (List UInt8)) (v:Value) (wr:World):Prop :=
 ∃ (k:Nat) (vr:Option Nat),k<=ss.length/\v=.int .i64 (k:Int)/\Wr wr g vr (T++(ss.take k).flatten) d/\Wd g vb w wr vr
theorem flat_take {ss:List (List UInt8)} {k:Nat} (h:k < ss.length):(ss.take (k+1)).flatten=(ss.take k).flatten++ss[k]:=by
 rw [List.take_succ_eq_append_getElem h,List.flatten_append];simp
theorem flat_le (ss:List (List UInt8)) (k:Nat):(ss.take k).flatten.length<=ss.flatten.length:=by
 have:ss.flatten=(ss.take k).flatten++(ss.drop k).flatten:=by rw [<- List.flatten_append,List.take_append_drop]
 rw [this,List.length_append];omega
end
theorem put_any (g d:Nat) (vb:Option Nat) (T:List UInt8) (ss:List (List UInt8)) (b o c:Nat) (w:World) (S:Nat->Prop) (h:Wr w g vb T d) (hlen:ss.length<=1000)
  (hp:∀ (j:Nat) (hj:j < ss.length),w.cell? ⟨b,o+j,none⟩=some (.string ⟨ss[j].toArray⟩)) (hS:Sf S w g vb) (hb:S b) (hl:T.length+ss.flatten.length<=1099511627776) :
  Calls Tryz.prog 63 #[.pointer (some ⟨g,0,none⟩),.slice (some ⟨b,o,none⟩) ss.length c] w (WP w g vb T ss.flatten d):=by
 have H:=hid h;have HP:=hid hp;have HS:=hid hS;have HL:=hid hl;clear h hp hS hl;go_enter Tryz.func63,Tryz.ntmps63;go_wp2_with fail
 go_loopw [8] (fun v8 wr=>QPutRel w g vb T d ss v8 wr) (fun v8 _=>ss.length - (intOf v8).toNat)
 case atStart=>exact⟨0,vb,Nat.zero_le _,rfl,by simpa using H.out,Wd.refl⟩
 case round =>
  obtain⟨k,vr,hk,rfl,hw,hd⟩:=hrel;have HW:=hid hw;have HD:=hid hd;clear hw hd;by_cases hlt:k < ss.length
  ·
   have hcell:wr.cell? ⟨b,o+k,none⟩=some (.string ⟨ss[k].toArray⟩):=HS.out.cell HD.out _ _ hb (HP.out k hlt);have hsl:T.length+(ss.take k).flatten.length+ss[k].length<=1099511627776:=by
    have h1:=flat_le ss (k+1);rw [flat_take hlt,List.length_append] at h1;have:=HL.out;omega
   have HSL:=hid hsl;have HF:=hid (flat_take hlt);obtain⟨A,n,cc,ht,hob,hvb⟩:=HW.out.text;have HOB:=hid hob;have HVB:=hid hvb;have hf:=HW.out.free 0;clear hsl hob hvb;generalize ss[k]=s at *;go_wp2_with (at_builtin;refine wpList_appStrB rfl (.tmp 16) (.tmp 17) rfl (.slice A n cc) _ s rfl HOB.out rfl (by rw [List.length_append];exact HSL.out) ?_;intro A' n' c' w' ho' hg' hb';obtain⟨hf',u',hc'⟩:=HW.out.mid HVB.out hg';have HO':=hid ho';have HG':=hid hg';have HB':=hid hb';clear ho' hg' hb')
   obtain⟨r1,r2⟩:=HW.out.back HVB.out HO'.out HG'.out HB'.out;refine⟨⟨k+1,_,by omega,by go_num,by rw [HF.out,<- List.append_assoc];exact r1,HD.out.trans r2⟩,?_⟩
   simp [intOf];omega
  ·
   have hk2:k=ss.length:=by omega
   subst hk2;go_wp2_with fail;refine bodyPost_end (v:=.tuple #[]) (by simp [results,Tryz.results63]) rfl ⟨rfl,vr,by have:=HW.out;rwa [List.take_length] at this,HD.out⟩
def strs (ss:List (List UInt8)):Array Value:=(ss.map fun s=>Value.string ⟨s.toArray⟩).toArray
theorem put_lits (g d:Nat) (vb:Option Nat) (T:List UInt8) (ss:List (List UInt8)) (W:World) (h:Wr W g vb T d) (hlen:ss.length<=1000) (hl:T.length+ss.flatten.length<=1099511627776) :
  Calls Tryz.prog 63 #[.pointer (some ⟨g,0,none⟩),.slice (some ⟨W.heap.size,0,none⟩) ss.length ss.length] (W.alloc (.cells (strs ss) 9)) (WP W g vb T ss.flatten d):=by
 have hb:Below W.heap.size W (W.alloc (.cells (strs ss) 9)):=(Below.refl _ _).alloc (Nat.le_refl _) _;refine(put_any g d vb T ss W.heap.size 0 ss.length _ (fun b=>b=W.heap.size) (h.below hb) hlen (fun j hj=>?_) (fun b e=>?_) rfl hl).mono ?_
 ·
  rw [Nat.zero_add,World.cell?_alloc_mark];simp [strs,hj]
 ·
  subst e;have h1:=h.lt;refine⟨by simp,by omega,fun e=>?_⟩
  have:=h.own _ e.symm;omega
 ·
  rintro e w' ⟨he,vb',h1,h2⟩;exact⟨he,vb',h1,(Wd.of_below hb).trans h2⟩
theorem put1 (g d:Nat) (vb:Option Nat) (T s:List UInt8) (W:World) {b:Nat} (hb:b=W.heap.size) (h:Wr W g vb T d) (hl:T.length+s.length<=1099511627776) :
  Calls Tryz.prog 63 #[.pointer (some ⟨g,0,none⟩),.slice (some ⟨b,0,none⟩) 1 1] (W.alloc (.cells #[.string ⟨s.toArray⟩] 9)) (WP W g vb T s d):=by
 subst hb;have:=put_lits g d vb T [s] W h (by simp) (by simpa using hl)
 rwa [show [s].flatten=s by simp] at this
theorem put2 (g d:Nat) (vb:Option Nat) (T s1 s2:List UInt8) (W:World) {b:Nat} (hb:b=W.heap.size) (h:Wr W g vb T d) (hl:T.length+(s1++s2).length<=1099511627776) :
  Calls Tryz.prog 63 #[.pointer (some ⟨g,0,none⟩),.slice (some ⟨b,0,none⟩) 2 2] (W.alloc (.cells #[.string ⟨s1.toArray⟩,.string ⟨s2.toArray⟩] 9)) (WP W g vb T (s1++s2) d):=by
 subst hb;have:=put_lits g d vb T [s1,s2] W h (by simp) (by simpa using hl)
 rwa [show [s1,s2].flatten=s1++s2 by simp] at this
theorem put3 (g d:Nat) (vb:Option Nat) (T s1 s2 s3:List UInt8) (W:World) {b:Nat} (hb:b=W.heap.size) (h:Wr W g vb T d) (hl:T.length+(s1++(s2++s3)).length<=1099511627776) :
  Calls Tryz.prog 63 #[.pointer (some ⟨g,0,none⟩),.slice (some ⟨b,0,none⟩) 3 3] (W.alloc (.cells #[.string ⟨s1.toArray⟩,.string ⟨s2.toArray⟩,.string ⟨s3.toArray⟩] 9)) (WP W g vb T (s1++(s2++s3)) d):=by
 subst hb;have:=put_lits g d vb T [s1,s2,s3] W h (by simp) (by simpa using hl)
 rwa [show [s1,s2,s3].flatten=s1++(s2++s3) by simp] at this
theorem put6 (g d:Nat) (vb:Option Nat) (T s1 s2 s3 s4 s5 s6:List UInt8) (W:World) {b:Nat} (hb:b=W.heap.size) (h:Wr W g vb T d) (hl:T.length+(s1++(s2++(s3++(s4++(s5++s6))))).length<=1099511627776) :
  Calls Tryz.prog 63 #[.pointer (some ⟨g,0,none⟩),.slice (some ⟨b,0,none⟩) 6 6] (W.alloc (.cells #[.string ⟨s1.toArray⟩,.string ⟨s2.toArray⟩,.string ⟨s3.toArray⟩,.string ⟨s4.toArray⟩,.string ⟨s5.toArray⟩,.string ⟨s6.toArray⟩] 9)) (WP W g vb T (s1++(s2++(s3++(s4++(s5++s6))))) d):=by
 subst hb;have:=put_lits g d vb T [s1,s2,s3,s4,s5,s6] W h (by simp) (by simpa using hl)
 rwa [show [s1,s2,s3,s4,s5,s6].flatten=s1++(s2++(s3++(s4++(s5++s6)))) by simp] at this
structure Ws (w:World) (g:Nat) (vb:Option Nat) (S:Nat->Prop) (op n:Int) (nm t:List UInt8) (l:List N) (A:Option Addr) (c:Nat) (T:List UInt8) (d:Nat) (wr:World) (vr:Option Nat):Prop where
 q:Wq wr g vr S T d
 hd:Wd g vb w wr vr
 bx:wr.heap[w.heap.size]? = some (.cells #[.int .i64 op,.string ⟨nm.toArray⟩,.int .i64 n,.string ⟨t.toArray⟩,.slice A l.length c] 25 (0,0))
 kr:KR wr S (.slice A l.length c) l
 ne:g≠w.heap.size/\vr≠some w.heap.size
section
variable {w wr w1:World} {g d d1 c:Nat} {vb vr v1:Option Nat} {S:Nat->Prop} {op n:Int} {nm t:List UInt8} {l:List N} {A:Option Addr} {T T1 s:List UInt8}
theorem Ws.init (h:Wq w g vb S T d) (hk:KR w S (.slice A l.length c) l) :
  Ws w g vb S op n nm t l A c T d (w.alloc (.cells #[.int .i64 op,.string ⟨nm.toArray⟩,.int .i64 n,.string ⟨t.toArray⟩,.slice A l.length c] 25)) vb:=by
 have hb:=bl (w:=w) (.cells #[.int .i64 op,.string ⟨nm.toArray⟩,.int .i64 n,.string ⟨t.toArray⟩,.slice A l.length c] 25);have h1:=h.hw.lt;exact⟨h.below hb,Wd.of_below hb,heap_alloc_new w _,hk.below hb,by omega,fun e=>by have:=h.hw.own _ e;omega⟩
theorem Ws.step (H:Ws w g vb S op n nm t l A c T d wr vr) (h1:Wr w1 g v1 T1 d1) (h2:Wd g vr wr w1 v1):Ws w g vb S op n nm t l A c T1 d1 w1 v1:=by
 have hlt:=(Array.getElem?_eq_some_iff.1 H.bx).1;refine⟨H.q.step h1 h2,H.hd.trans h2,(h2.block _ hlt (fun e=>H.ne.1 e.symm) (fun e=>H.ne.2 e.symm)).trans H.bx,H.kr.wd H.q.sf h2,H.ne.1,fun e=>?_⟩
 rcases h2.own with e2 | ⟨k,e2,hk⟩
 ·
  exact H.ne.2 (e2 ▸ e)
 ·
  rw [e] at e2;injection e2;omega
theorem Ws.below (H:Ws w g vb S op n nm t l A c T d wr vr) (hb:Below wr.heap.size wr w1):Ws w g vb S op n nm t l A c T d w1 vr:=H.step (H.q.hw.below hb) (Wd.of_below hb)
theorem Ws.fin (H:Ws w g vb S op n nm t l A c (T++s) d wr vr):WP w g vb T s d (.returned (.tuple #[])) wr:=⟨rfl,vr,H.q.hw,H.hd⟩
theorem Ws.five (H:Ws w g vb S op n nm t l A c T d wr vr) :
  wr.cell? ⟨w.heap.size,0,none⟩=some (.int .i64 op)/\wr.cell? ⟨w.heap.size,1,none⟩=some (.string ⟨nm.toArray⟩)/\wr.cell? ⟨w.heap.size,2,none⟩=some (.int .i64 n)/\wr.cell? ⟨w.heap.size,3,none⟩=some (.string ⟨t.toArray⟩)/\wr.cell? ⟨w.heap.size,4,none⟩=some (.slice A l.length c):=by
 have:=cellAt H.bx;exact⟨by simpa using this 0,by simpa using this 1,by simpa using this 2,by simpa using this 3,by simpa using this 4⟩
theorem Ws.na (H:Ws w g vb S op n nm t l A c T d wr vr) (ho:Ok op nm n t l.length):NA wr S (.agg #[.int .i64 op,.string ⟨nm.toArray⟩,.int .i64 n,.string ⟨t.toArray⟩,.slice A l.length c]) (.mk op nm n t l):=NA.mk_ ho H.kr
theorem Ws.addr {i:Nat} {kd:N} (H:Ws w g vb S op n nm t l A c T d wr vr) (h:l[i]? = some kd):∃ b o,A=some ⟨b,o,none⟩:=by
 obtain⟨xs,h1,h2⟩:=H.kr;obtain⟨hi,_⟩:=List.getElem?_eq_some_iff.1 h;obtain⟨b,o,cc,A1,c1,he,_⟩:=kids_at h1 h2 i hi;injection he with he1;exact⟨b,o,he1⟩
theorem Ws.kid {i b o e:Nat} {kd:N} (H:Ws w g vb S op n nm t l (some ⟨b,o,none⟩) c T d wr vr) (h:l[i]? = some kd) (he:e=o+i * 5) :
  ∃ (A1:Option Addr) (c1:Nat),
   wr.cell? ⟨b,e,none⟩=some (.int .i64 kd.op)/\wr.cell? ⟨b,e+1,none⟩=some (.string ⟨kd.nm.toArray⟩)/\wr.cell? ⟨b,e+2,none⟩=some (.int .i64 kd.n)/\wr.cell? ⟨b,e+3,none⟩=some (.string ⟨kd.t.toArray⟩)/\wr.cell? ⟨b,e+4,none⟩=some (.slice A1 kd.l.length c1) /\
   Hid (NA wr S (.agg #[.int .i64 kd.op,.string ⟨kd.nm.toArray⟩,.int .i64 kd.n,.string ⟨kd.t.toArray⟩,.slice A1 kd.l.length c1]) kd):=by
 obtain⟨xs,h1,h2⟩:=H.kr;obtain⟨hi,hk⟩:=List.getElem?_eq_some_iff.1 h;obtain⟨b',o',cc,A1,c1,he2,h3⟩:=kids_at h1 h2 i hi;injection he2 with he1;injection he1 with he1;injection he1 with e1 e2 e3;subst e1 e2 he hk;exact⟨A1,c1,h3⟩
theorem Ws.keepk {i b o:Nat} {kd:N} (H:Ws w g vb S op n nm t l (some ⟨b,o,none⟩) c T d wr vr) (h:l[i]? = some kd) (c2:Wd g vr wr w1 v1):∀ (j:Nat) (u:Value),wr.cell? ⟨b,j,none⟩=some u->w1.cell? ⟨b,j,none⟩=some u:=by
 obtain⟨xs,⟨A',c',he,_,_,_,h4⟩,_⟩:=H.kr;injection he with he1;obtain⟨hi,_⟩:=List.getElem?_eq_some_iff.1 h;rcases h4 with h4 | ⟨b',o',rfl,hb,_⟩
 ·
  omega
 ·
  injection he1 with he1;injection he1 with e1 e2 e3;subst e1;exact fun j u hc=>H.q.sf.cell c2 _ _ hb hc
theorem Wq.more {S':Nat->Prop} (H:Wq w g vb S T d) (h:∀ b,S' b->b < w.heap.size/\b≠g/\some b≠vb):Wq w g vb S' T d:=⟨H.hw,h,H.gd⟩
end
end Go.Proofs.YtgeppafcemeidaaGreatDoor
namespace Go.Proofs.YtgeppafcemeidaaGreatDoor
open Go.RowKit
open Sy (N)
def QX (m:Nat):Prop:=∀ (v:N) (a:Value) (w:World) (g d:Nat) (vb:Option Nat) (S:Nat->Prop) (T:List UInt8),Sy.N.size v<=m->Sy.aX v=true->Wq w g vb S T d->NA w S a v->T.length+(Sy.X v).length<=1099511627776 ->
 Calls Tryz.prog 41 #[.pointer (some ⟨g,0,none⟩),a] w (WP w g vb T (Sy.X v) d)
def ElmRel (w:World) (g:Nat) (vb:Option Nat) (S:Nat->Prop) (T first:List UInt8) (d:Nat) (ks:List N) (v:Value) (wr:World):Prop :=
 ∃ (k:Nat) (vr:Option Nat),k<=ks.length/\v=.int .i64 (k:Int)/\Wq wr g vr S (T++(first++Sy.glue ((ks.map Sy.X).take k))) d/\Wd g vb w wr vr
theorem glue_le (l:List (List UInt8)) (k:Nat):(Sy.glue (l.take k)).length<=(Sy.glue l).length:=by
 cases l with
 | nil=>simp
 | cons a l =>
  cases k with
  | zero=>simp [Sy.glue]
  | succ k =>
   rw [List.take_succ_cons];unfold Sy.glue;rw [List.length_append,List.length_append,<- List.take_append_drop k l,List.flatMap_append,List.length_append];simp
theorem elements_any {m:Nat} (HE:QX m) (g d:Nat) (vb:Option Nat) (S:Nat->Prop) (T first last:List UInt8) (ks:List N) (A:Option Addr) (c:Nat) (w:World) (hq:Wq w g vb S T d) (hk:KR w S (.slice A ks.length c) ks)
  (hs:∀ v∈ks,Sy.N.size v<=m/\Sy.aX v=true) (hn:ks.length<=4398046511104) (hl:T.length+(first++(Sy.glue (ks.map Sy.X)++last)).length<=1099511627776) :
  Calls Tryz.prog 71 #[.pointer (some ⟨g,0,none⟩),.string ⟨first.toArray⟩,.slice A ks.length c,.string ⟨last.toArray⟩] w (WP w g vb T (first++(Sy.glue (ks.map Sy.X)++last)) d):=by
 have HE:=hid HE;have HQ:=hid hq;have HK:=hid hk;have HS:=hid hs;have HL:=hid hl;clear hq hk hs hl;have C1:=hid (put1 g d vb T first w rfl HQ.out.hw (by have:=HL.out;simp only [List.length_append] at this |-;omega))
 go_enter Tryz.func71,Tryz.ntmps71;go_wp2_with fail;refine C1.out.mono ?_;rintro e w1 ⟨rfl,v1,h1,h2⟩;have H1:=hid h1;have H2:=hid h2;clear h1 h2;go_wp2_with fail
 go_loopw [16] (fun v16 wr=>ElmRel w g vb S T first d ks v16 wr) (fun v16 _=>ks.length - (intOf v16).toNat)
 case atStart=>exact⟨0,v1,Nat.zero_le _,rfl,by simpa [Sy.glue] using HQ.out.step H1.out H2.out,H2.out⟩
 case round =>
  obtain⟨k,vr,hk,rfl,hq,hd⟩:=hrel;have HQR:=hid hq;have HD:=hid hd;clear hq hd;by_cases hlt:k < ks.length
  ·
   have HA:=hid (HK.out.wd HQ.out.sf HD.out);obtain⟨xs,r1,r2⟩:=HA.out;obtain⟨b,o,cc,A1,c1,he,q0,q1,q2,q3,q4,hna⟩:=kids_at r1 r2 k hlt;injection he with he1 he2 he3;subst he1;clear he2 he3 r1 r2 HA;have HT:Hid (T++(first++Sy.glue ((ks.map Sy.X).take (k+1)))=(T++(first++Sy.glue ((ks.map Sy.X).take k))++(if k=0 then [] else [44,32]))++Sy.X ks[k]):=by
    show _=_;rw [Sy.glue_take (by simpa using hlt),List.getElem_map]
    simp only [List.append_assoc]
   have HB:Hid ((T++(first++Sy.glue ((ks.map Sy.X).take k))++(if k=0 then [] else [44,32])).length+(Sy.X ks[k]).length<=1099511627776):=by
    show _<=_;rw [<- List.length_append,<- HT.out];have:=HL.out;have h3:=glue_le (ks.map Sy.X) (k+1);simp only [List.length_append] at this |-
    omega
   have HNA:=hid hna;obtain⟨hz1,hz2⟩:=HS.out ks[k] (List.getElem_mem hlt);have HZ1:=hid hz1;have HZ2:=hid hz2;clear hna hz1 hz2;generalize hT:T++(first++Sy.glue ((ks.map Sy.X).take k))=T1 at *
   clear hT;generalize ks[k]=kd at *;by_cases h0:k=0
   ·
    rw [if_pos h0,List.append_nil] at HT HB;have h0':(k:Int)<=0:=by omega
    clear h0;go_wp2_with fail;have hb9:=bl (w:=wr) (.cells #[.int .i64 kd.op,.string ⟨kd.nm.toArray⟩,.int .i64 kd.n,.string ⟨kd.t.toArray⟩,.slice A1 kd.l.length c1] 25);refine(HE.out _ _ _ _ _ _ _ _ HZ1.out HZ2.out (HQR.out.below hb9) (HNA.out.below hb9) HB.out).mono ?_;rintro e w2 ⟨rfl,v2,h1,h2⟩;have H3:=hid (HQR.out.step h1 ((Wd.of_below hb9).trans h2));have H4:=hid (HD.out.trans ((Wd.of_below hb9).trans h2));clear h1 h2 hb9;go_wp2_with fail;refine⟨⟨k+1,v2,by omega,by go_num,by rw [HT.out];exact H3.out,H4.out⟩,?_⟩
    simp [intOf];omega
   ·
    rw [if_neg h0] at HT HB;have h0':0 < (k:Int):=by omega
    clear h0;have hb9:=bl (w:=wr) (.cells #[.int .i64 kd.op,.string ⟨kd.nm.toArray⟩,.int .i64 kd.n,.string ⟨kd.t.toArray⟩,.slice A1 kd.l.length c1] 25);have C2:=hid (put1 g d vr T1 [44,32] _ (b:=wr.heap.size+1) (by simp) (HQR.out.below hb9).hw (by have:=HB.out;simp only [List.length_append] at this;omega))
    have HB9:=hid hb9;have HX:=hid (heap_alloc_new wr (.cells #[.int .i64 kd.op,.string ⟨kd.nm.toArray⟩,.int .i64 kd.n,.string ⟨kd.t.toArray⟩,.slice A1 kd.l.length c1] 25));clear hb9;go_wp2_with fail;refine C2.out.mono ?_;rintro e w2 ⟨rfl,v2,h1,h2⟩;have HX2:=(h2.block wr.heap.size (by simp) (by have:=HQR.out.hw.lt;omega) (fun e=>by have:=HQR.out.hw.own _ e.symm;omega)).trans HX.out
    have q0:w2.cell? ⟨wr.heap.size,0,none⟩=some (.int .i64 kd.op):=by have:=cellAt HX2 0;simpa using this
    have q1:w2.cell? ⟨wr.heap.size,1,none⟩=some (.string ⟨kd.nm.toArray⟩):=by have:=cellAt HX2 1;simpa using this
    have q2:w2.cell? ⟨wr.heap.size,2,none⟩=some (.int .i64 kd.n):=by have:=cellAt HX2 2;simpa using this
    have q3:w2.cell? ⟨wr.heap.size,3,none⟩=some (.string ⟨kd.t.toArray⟩):=by have:=cellAt HX2 3;simpa using this
    have q4:w2.cell? ⟨wr.heap.size,4,none⟩=some (.slice A1 kd.l.length c1):=by have:=cellAt HX2 4;simpa using this
    have H3:=hid (HQR.out.step h1 ((Wd.of_below HB9.out).trans h2));have H4:=hid ((Wd.of_below HB9.out).trans h2);have HN:=hid (HNA.out.wd HQR.out.sf H4.out);clear h1 h2 HX2;go_wp2_with fail;refine(HE.out _ _ _ _ _ _ _ _ HZ1.out HZ2.out H3.out HN.out HB.out).mono ?_;rintro e w3 ⟨rfl,v3,h1,h2⟩;have H5:=hid (H3.out.step h1 h2);have H6:=hid (HD.out.trans (H4.out.trans h2));clear h1 h2;go_wp2_with fail;refine⟨⟨k+1,v3,by omega,by go_num,by rw [HT.out];exact H5.out,H6.out⟩,?_⟩
    simp [intOf];omega
  ·
   have hk2:k=ks.length:=by omega
   subst hk2;have HT:Hid ((ks.map Sy.X).take ks.length=ks.map Sy.X):=by show _=_;rw [<- List.length_map (f:=Sy.X),List.take_length]
   rw [HT.out] at HQR;have C2:=hid (put1 g d vr _ last wr rfl HQR.out.hw (by have:=HL.out;simp only [List.length_append] at this |-;omega))
   go_wp2_with fail
   refine C2.out.mono ?_;rintro e w2 ⟨rfl,v2,h1,h2⟩;have H3:=hid h1;have H4:=hid (HD.out.trans h2);clear h1 h2;go_wp2_with fail;refine bodyPost_end (v:=.tuple #[]) (by simp [results,Tryz.results71]) rfl ⟨rfl,v2,by simpa [List.append_assoc] using H3.out,H4.out⟩
end Go.Proofs.YtgeppafcemeidaaGreatDoor
namespace Go.Proofs.YtgeppafcemeidaaGreatDoor
open Go.RowKit
open Sy (N)
theorem call_any {m:Nat} (HE:QX m) (kw:List UInt8) (g d:Nat) (vb:Option Nat) (S:Nat->Prop) (T:List UInt8) (op n:Int) (nm t:List UInt8) (l:List N) (A:Option Addr) (c:Nat) (w:World) (hq:Wq w g vb S T d) (hk:KR w S (.slice A l.length c) l) (hs:∀ v∈l,Sy.N.size v<=m/\Sy.aX v=true) (hn:l.length<=4398046511104) (hl:T.length+(kw++(nm++40::(Sy.glue (l.map Sy.X)++[41]))).length<=1099511627776) :
  Calls Tryz.prog 72 #[.pointer (some ⟨g,0,none⟩),.string ⟨kw.toArray⟩,.agg #[.int .i64 op,.string ⟨nm.toArray⟩,.int .i64 n,.string ⟨t.toArray⟩,.slice A l.length c]] w (WP w g vb T (kw++(nm++40::(Sy.glue (l.map Sy.X)++[41]))) d):=by
 have HE:=hid HE;have HS:=hid hs;have HN:=hid hn;clear hs hn;have HW:=hid (Ws.init (op:=op) (n:=n) (nm:=nm) (t:=t) hq hk);have HL:=hid hl;clear hq hk hl;go_enter Tryz.func72,Tryz.ntmps72;go_wp2_with fail;refine(put2 g d vb _ kw nm _ (b:=w.heap.size+1) (by simp) HW.out.q.hw (by have:=HL.out;(try simp only [List.length_append,List.length_cons,List.length_nil] at this |-);omega)).mono ?_
 rintro e w1 ⟨rfl,v1,h1,h2⟩;replace HW:=hid (HW.out.step h1 h2);clear h1 h2;obtain⟨q0,q1,q2,q3,q4⟩:=HW.out.five;go_wp2_with fail;refine(elements_any HE.out g d v1 S _ [40] [41] l A c w1 HW.out.q HW.out.kr HS.out HN.out (by have:=HL.out;(try simp only [List.length_append,List.length_cons,List.length_nil] at this |-);omega)).mono ?_
 clear q0 q1 q2 q3 q4;rintro e w2 ⟨rfl,v2,h1,h2⟩;replace HW:=hid (HW.out.step h1 h2);clear h1 h2;obtain⟨q0,q1,q2,q3,q4⟩:=HW.out.five;go_wp2_with fail;refine bodyPost_end (v:=.tuple #[]) (by simp [results,Tryz.results72]) rfl ⟨rfl,_,by simpa [List.append_assoc] using HW.out.q.hw,HW.out.hd⟩
theorem operand_any {m:Nat} (HE:QX m) (least:Nat) (hle:least<=10) (g d:Nat) (vb:Option Nat) (S:Nat->Prop) (T:List UInt8) (op n:Int) (nm t:List UInt8) (l:List N) (A:Option Addr) (c:Nat) (w:World) (hq:Wq w g vb S T d) (hk:KR w S (.slice A l.length c) l) (ho:Ok op nm n t l.length) (hz:Sy.N.size (.mk op nm n t l)<=m) (ha:Sy.aX (.mk op nm n t l)=true) (hl:T.length+(Sy.par least op (Sy.X (.mk op nm n t l))).length<=1099511627776) :
  Calls Tryz.prog 121 #[.pointer (some ⟨g,0,none⟩),.agg #[.int .i64 op,.string ⟨nm.toArray⟩,.int .i64 n,.string ⟨t.toArray⟩,.slice A l.length c],.int .i64 (least:Int)] w (WP w g vb T (Sy.par least op (Sy.X (.mk op nm n t l))) d):=by
 have HE:=hid HE;have HZ:=hid hz;have HA:=hid ha;have HO:=hid ho;obtain⟨hop1,hop2,_,_⟩:=Sy.aX_mk ha;have CL:=hid (fun W=>level9_any op W hop1 hop2)
 have hlv:=lev_le op;clear hz ha ho hop1 hop2;by_cases hp:Sy.lev op < least
 ·
  have HP:Hid (Sy.par least op (Sy.X (.mk op nm n t l))=[40]++(Sy.glue ([.mk op nm n t l].map Sy.X)++[41])):=by
   show _=_;unfold Sy.par;rw [if_pos hp];simp [Sy.glue]
  rw [HP.out] at hl |-
  have HW:=hid (Ws.init (op:=op) (n:=n) (nm:=nm) (t:=t) hq hk);have HL:=hid hl;clear hq hk hl;generalize Sy.lev op=lv at *;have hp2:¬ (least:Int)<=(lv:Int):=by omega
  clear hp;go_enter Tryz.func121,Tryz.ntmps121;go_wp2_with fail;refine(CL.out _).mono ?_;rintro e w1 ⟨rfl,rfl⟩;go_wp2_with fail;have hbx:Below (w.alloc (.cells #[.int .i64 op,.string ⟨nm.toArray⟩,.int .i64 n,.string ⟨t.toArray⟩,.slice A l.length c] 25)).heap.size (w.alloc (.cells #[.int .i64 op,.string ⟨nm.toArray⟩,.int .i64 n,.string ⟨t.toArray⟩,.slice A l.length c] 25)) ((w.alloc (.cells #[.int .i64 op,.string ⟨nm.toArray⟩,.int .i64 n,.string ⟨t.toArray⟩,.slice A l.length c] 25)).alloc (.cells #[.int .i64 op,.string ⟨nm.toArray⟩,.int .i64 n,.string ⟨t.toArray⟩,.slice A l.length c] 25)):=bl _;have hna:=HW.out.na HO.out;have hkr:=KR.one_ (S':=fun b=>S b\/b=w.heap.size+1) hna (fun b hb _=>.inl hb) (.inr (by simp)) 25
  have hsf:∀ b,(S b\/b=w.heap.size+1)->b < ((w.alloc (.cells #[.int .i64 op,.string ⟨nm.toArray⟩,.int .i64 n,.string ⟨t.toArray⟩,.slice A l.length c] 25)).alloc (.cells #[.int .i64 op,.string ⟨nm.toArray⟩,.int .i64 n,.string ⟨t.toArray⟩,.slice A l.length c] 25)).heap.size/\b≠g/\some b≠vb:=by
   rintro b (hb | rfl)
   ·
    obtain⟨s1,s2⟩:=HW.out.q.sf b hb;exact⟨by simp at s1 |-;omega,s2⟩
   ·
    have:=HW.out.q.hw.lt;refine⟨by simp,by simp at this;omega,fun e=>?_⟩
    have:=HW.out.q.hw.own _ e.symm;simp at this
  have hq2:=(HW.out.q.below hbx).more hsf;rw [show (w.alloc (.cells #[.int .i64 op,.string ⟨nm.toArray⟩,.int .i64 n,.string ⟨t.toArray⟩,.slice A l.length c] 25)).heap.size=w.heap.size+1 by simp] at hkr
  refine(elements_any HE.out g d vb _ _ [40] [41] [.mk op nm n t l] _ _ _ hq2 hkr (fun v hv=>by rw [List.mem_singleton] at hv;subst hv;exact⟨HZ.out,HA.out⟩) (by simp) HL.out).mono ?_
  clear hkr hsf hna hq2;rintro e w1 ⟨rfl,v1,h1,h2⟩;have H1:=hid h1;have H2:=hid (HW.out.hd.trans ((Wd.of_below hbx).trans h2));clear h1 h2 hbx;go_wp2_with fail;refine bodyPost_end (v:=.tuple #[]) (by simp [results,Tryz.results121]) rfl ⟨rfl,_,H1.out,H2.out⟩
 ·
  have HP:Hid (Sy.par least op (Sy.X (.mk op nm n t l))=Sy.X (.mk op nm n t l)):=by
   show _=_;unfold Sy.par;rw [if_neg hp]
  rw [HP.out] at hl |-
  have HW:=hid (Ws.init (op:=op) (n:=n) (nm:=nm) (t:=t) hq hk);have HL:=hid hl;clear hq hk hl;generalize Sy.lev op=lv at *;have hp2:(least:Int)<=(lv:Int):=by omega
  clear hp;go_enter Tryz.func121,Tryz.ntmps121;go_wp2_with fail;refine(CL.out _).mono ?_;rintro e w1 ⟨rfl,rfl⟩;go_wp2_with fail;refine(HE.out _ _ _ _ _ _ _ _ HZ.out HA.out HW.out.q (HW.out.na HO.out) HL.out).mono ?_;rintro e w1 ⟨rfl,v1,h1,h2⟩;have H1:=hid h1;have H2:=hid (HW.out.hd.trans h2);clear h1 h2;go_wp2_with fail;refine bodyPost_end (v:=.tuple #[]) (by simp [results,Tryz.results121]) rfl ⟨rfl,_,H1.out,H2.out⟩
end Go.Proofs.YtgeppafcemeidaaGreatDoor
namespace Go.Proofs.YtgeppafcemeidaaGreatDoor
open Go.RowKit
open Sy (N)
theorem operand_n {m:Nat} (HE:QX m) (least:Nat) {li:Int} (hli:li=(least:Int)) (hle:least<=10) (g d:Nat) (vb:Option Nat) (S:Nat->Prop) (T:List UInt8) (v:N) (a:Value) (w:World) (hq:Wq w g vb S T d) (hna:NA w S a v) (hz:Sy.N.size v<=m) (ha:Sy.aX v=true)
  (hl:T.length+(Sy.par least v.op (Sy.X v)).length<=1099511627776) :
  Calls Tryz.prog 121 #[.pointer (some ⟨g,0,none⟩),a,.int .i64 li] w (WP w g vb T (Sy.par least v.op (Sy.X v)) d):=by
 subst hli;obtain⟨op,nm,n,t,l⟩:=v;obtain⟨A,c,rfl,ho,hk⟩:=hna.open_;exact operand_any HE least hle g d vb S T op n nm t l A c w hq hk ho hz ha hl
theorem unary_any {m:Nat} (HE:QX m) (kw:List UInt8) (g d:Nat) (vb:Option Nat) (S:Nat->Prop) (T:List UInt8) (op n:Int) (nm t:List UInt8) (l:List N) (A:Option Addr) (c:Nat) (w:World) (hq:Wq w g vb S T d) (hk:KR w S (.slice A l.length c) l) (hop1:1<=op) (hop2:op<=29) (a:N) (h0:l[0]? = some a) (hz:Sy.N.size a<=m) (ha:Sy.aX a=true) (hl:T.length+(kw++Sy.par (Sy.lev op) a.op (Sy.X a)).length<=1099511627776) :
  Calls Tryz.prog 120 #[.pointer (some ⟨g,0,none⟩),.string ⟨kw.toArray⟩,.agg #[.int .i64 op,.string ⟨nm.toArray⟩,.int .i64 n,.string ⟨t.toArray⟩,.slice A l.length c]] w (WP w g vb T (kw++Sy.par (Sy.lev op) a.op (Sy.X a)) d):=by
 have HE:=hid HE;have HZ:=hid hz;have HA:=hid ha;have H0:=hid h0;have CL:=hid (fun W=>level9_any op W hop1 hop2)
 have hlv:=lev_le op;have hlen0:0 < l.length:=(List.getElem?_eq_some_iff.1 h0).1;have hlen:(0:Int) < (l.length:Int):=by have:=(List.getElem?_eq_some_iff.1 h0).1;omega
 clear hz ha hop1 hop2;have HW:=hid (Ws.init (op:=op) (n:=n) (nm:=nm) (t:=t) hq hk);obtain⟨b,o,rfl⟩:=HW.out.addr h0;have HL:=hid hl;clear hq hk hl;clear h0;generalize Sy.lev op=lv at *;go_enter Tryz.func120,Tryz.ntmps120;go_wp2_with fail;refine(put1 g d vb _ kw _ (b:=w.heap.size+1) (by simp) HW.out.q.hw (by have:=HL.out;(try simp only [List.length_append,List.length_cons,List.length_nil] at this |-);omega)).mono ?_
 rintro e w1 ⟨rfl,v1,h1,h2⟩;replace HW:=hid (HW.out.step h1 h2);clear h1 h2;obtain⟨q0,q1,q2,q3,q4⟩:=HW.out.five;go_wp2_with fail;replace HW:=hid (HW.out.below ((Below.refl _ _).drew));obtain⟨A0,c0,k00,k01,k02,k03,k04,HN0⟩:=HW.out.kid (e:=o) H0.out (by omega)
 have HS:Hid (w1.drew.cell? ⟨w.heap.size,0,none⟩=some (.int .i64 op)/\w1.drew.cell? ⟨w.heap.size,4,none⟩=some (.slice (some ⟨b,o,none⟩) l.length c)/\w1.drew.cell? ⟨b,o,none⟩=some (.int .i64 a.op)/\w1.drew.cell? ⟨b,o+1,none⟩=some (.string ⟨a.nm.toArray⟩)/\w1.drew.cell? ⟨b,o+2,none⟩=some (.int .i64 a.n)/\w1.drew.cell? ⟨b,o+3,none⟩=some (.string ⟨a.t.toArray⟩)/\w1.drew.cell? ⟨b,o+4,none⟩=some (.slice A0 a.l.length c0)):=⟨q0,q4,k00,k01,k02,k03,k04⟩;clear q0 q1 q2 q3 q4 k00 k01 k02 k03 k04;go_region_held3 (fun W=>W.cell? ⟨w.heap.size,0,none⟩=some (.int .i64 op)/\W.cell? ⟨w.heap.size,4,none⟩=some (.slice (some ⟨b,o,none⟩) l.length c)/\W.cell? ⟨b,o,none⟩=some (.int .i64 a.op)/\W.cell? ⟨b,o+1,none⟩=some (.string ⟨a.nm.toArray⟩)/\W.cell? ⟨b,o+2,none⟩=some (.int .i64 a.n)/\W.cell? ⟨b,o+3,none⟩=some (.string ⟨a.t.toArray⟩)/\W.cell? ⟨b,o+4,none⟩=some (.slice A0 a.l.length c0))
  (first | exact HS.out | go_keep)
  (first
   | (go_at_call 162;(with_reducible refine(CL.out _).mono ?_);rintro e w3 ⟨rfl,rfl⟩)
   | (go_at_call 121;(with_reducible refine(operand_n HE.out lv rfl (by omega) g d v1 S _ a _ _ HW.out.q HN0.out HZ.out HA.out (by have:=HL.out;(try simp only [List.length_append,List.length_cons,List.length_nil] at this |-);omega)).mono ?_);rintro e w4 ⟨rfl,v4,h1,h2⟩;have kk:=HW.out.keepk H0.out h2;replace HW:=hid (HW.out.step h1 h2);have p0:=HW.out.five;replace HS:=hid (And.intro p0.1 (And.intro p0.2.2.2.2 (And.intro (kk _ _ HS.out.2.2.1) (And.intro (kk _ _ HS.out.2.2.2.1) (And.intro (kk _ _ HS.out.2.2.2.2.1) (And.intro (kk _ _ HS.out.2.2.2.2.2.1) (kk _ _ HS.out.2.2.2.2.2.2)))))));clear h1 h2 kk p0))
 skip
 go_wp2_with fail
 refine bodyPost_end (v:=.tuple #[]) (by simp [results,Tryz.results120]) rfl ⟨rfl,_,by simpa [List.append_assoc] using HW.out.q.hw,HW.out.hd⟩
theorem binary_any {m:Nat} (HE:QX m) (g d:Nat) (vb:Option Nat) (S:Nat->Prop) (T:List UInt8) (op n:Int) (nm t:List UInt8) (l:List N) (A:Option Addr) (c:Nat) (w:World) (hq:Wq w g vb S T d) (hk:KR w S (.slice A l.length c) l) (hop1:15<=op) (hop2:op<=27) (a a2:N) (h0:l[0]? = some a) (h1:l[1]? = some a2) (hz:Sy.N.size a<=m) (ha:Sy.aX a=true) (hz2:Sy.N.size a2<=m) (ha2:Sy.aX a2=true) (hl:T.length+(Sy.par (Sy.lft op) a.op (Sy.X a)++32::(Sy.sgn op++32::Sy.par (Sy.lev op+1) a2.op (Sy.X a2))).length<=1099511627776) :
  Calls Tryz.prog 122 #[.pointer (some ⟨g,0,none⟩),.agg #[.int .i64 op,.string ⟨nm.toArray⟩,.int .i64 n,.string ⟨t.toArray⟩,.slice A l.length c]] w (WP w g vb T (Sy.par (Sy.lft op) a.op (Sy.X a)++32::(Sy.sgn op++32::Sy.par (Sy.lev op+1) a2.op (Sy.X a2))) d):=by
 have HE:=hid HE;have HZ:=hid hz;have HA:=hid ha;have H0:=hid h0;have HZ2:=hid hz2;have HA2:=hid ha2;have H1:=hid h1;have CL:=hid (fun W=>infix9_yes op W hop1 hop2)
 have hlv:=lev_le op;have HLF:Hid (Sy.lft op=if Sy.lev op=4 then 5 else Sy.lev op):=rfl
 have hlen0:1 < l.length:=(List.getElem?_eq_some_iff.1 h1).1;have hlen:(1:Int) < (l.length:Int):=by have:=(List.getElem?_eq_some_iff.1 h1).1;omega
 clear hz ha hop1 hop2 hz2 ha2;have HW:=hid (Ws.init (op:=op) (n:=n) (nm:=nm) (t:=t) hq hk);obtain⟨b,o,rfl⟩:=HW.out.addr h0;have HL:=hid hl;clear hq hk hl;clear h0 h1;generalize Sy.lft op=lf at *;generalize Sy.lev op=lv at *;generalize Sy.sgn op=sg at *;go_enter Tryz.func122,Tryz.ntmps122;by_cases h4:lv=4
 ·
  have hlf:lf=5:=by rw [HLF.out,if_pos h4]
  subst hlf;subst h4;clear HLF;go_wp2_with fail;refine(CL.out _).mono ?_;rintro e w1 ⟨rfl,rfl⟩;obtain⟨A0,c0,k00,k01,k02,k03,k04,HN0⟩:=HW.out.kid (e:=o) H0.out (by omega)
  go_wp2_with fail
  refine(operand_n HE.out 5 (li:=5) (by omega) (by omega) g d vb S _ a _ _ HW.out.q HN0.out HZ.out HA.out (by have:=HL.out;(try simp only [List.length_append,List.length_cons,List.length_nil] at this |-);omega)).mono ?_
  rintro e w1 ⟨rfl,v1,h1,h2⟩;replace HW:=hid (HW.out.step h1 h2);clear h1 h2;obtain⟨q0,q1,q2,q3,q4⟩:=HW.out.five;clear k00 k01 k02 k03 k04;go_wp2_with fail;refine(put3 g d v1 _ [32] sg [32] _ rfl HW.out.q.hw (by have:=HL.out;(try simp only [List.length_append,List.length_cons,List.length_nil] at this |-);omega)).mono ?_
  clear q0 q1 q2 q3 q4;rintro e w2 ⟨rfl,v2,h1,h2⟩;replace HW:=hid (HW.out.step h1 h2);clear h1 h2;obtain⟨q0,q1,q2,q3,q4⟩:=HW.out.five;obtain⟨A1,c1,k10,k11,k12,k13,k14,HN1⟩:=HW.out.kid (e:=o+5) H1.out (by omega)
  go_wp2_with fail
  refine(operand_n HE.out (4+1) (li:=5) (by omega) (by omega) g d v2 S _ a2 _ _ HW.out.q HN1.out HZ2.out HA2.out (by have:=HL.out;(try simp only [List.length_append,List.length_cons,List.length_nil] at this |-);omega)).mono ?_
  clear q0 q1 q2 q3 q4;rintro e w3 ⟨rfl,v3,h1,h2⟩;replace HW:=hid (HW.out.step h1 h2);clear h1 h2;obtain⟨q0,q1,q2,q3,q4⟩:=HW.out.five;go_wp2_with fail;refine bodyPost_end (v:=.tuple #[]) (by simp [results,Tryz.results122]) rfl ⟨rfl,_,by simpa [List.append_assoc] using HW.out.q.hw,HW.out.hd⟩
 ·
  have hlf:lf=lv:=by rw [HLF.out,if_neg h4]
  subst hlf;have h4:((lf:Int)==4)=false:=by simp;omega
  clear HLF;go_wp2_with fail;refine(CL.out _).mono ?_;rintro e w1 ⟨rfl,rfl⟩;obtain⟨A0,c0,k00,k01,k02,k03,k04,HN0⟩:=HW.out.kid (e:=o) H0.out (by omega)
  go_wp2_with fail
  refine(operand_n HE.out lf (li:=(lf:Int)) (by omega) (by omega) g d vb S _ a _ _ HW.out.q HN0.out HZ.out HA.out (by have:=HL.out;(try simp only [List.length_append,List.length_cons,List.length_nil] at this |-);omega)).mono ?_
  rintro e w1 ⟨rfl,v1,h1,h2⟩;replace HW:=hid (HW.out.step h1 h2);clear h1 h2;obtain⟨q0,q1,q2,q3,q4⟩:=HW.out.five;clear k00 k01 k02 k03 k04;go_wp2_with fail;refine(put3 g d v1 _ [32] sg [32] _ rfl HW.out.q.hw (by have:=HL.out;(try simp only [List.length_append,List.length_cons,List.length_nil] at this |-);omega)).mono ?_
  clear q0 q1 q2 q3 q4;rintro e w2 ⟨rfl,v2,h1,h2⟩;replace HW:=hid (HW.out.step h1 h2);clear h1 h2;obtain⟨q0,q1,q2,q3,q4⟩:=HW.out.five;obtain⟨A1,c1,k10,k11,k12,k13,k14,HN1⟩:=HW.out.kid (e:=o+5) H1.out (by omega)
  go_wp2_with fail
  refine(operand_n HE.out (lf+1) (li:=(lf:Int)+1) (by omega) (by omega) g d v2 S _ a2 _ _ HW.out.q HN1.out HZ2.out HA2.out (by have:=HL.out;(try simp only [List.length_append,List.length_cons,List.length_nil] at this |-);omega)).mono ?_
  clear q0 q1 q2 q3 q4;rintro e w3 ⟨rfl,v3,h1,h2⟩;replace HW:=hid (HW.out.step h1 h2);clear h1 h2;obtain⟨q0,q1,q2,q3,q4⟩:=HW.out.five;go_wp2_with fail;refine bodyPost_end (v:=.tuple #[]) (by simp [results,Tryz.results122]) rfl ⟨rfl,_,by simpa [List.append_assoc] using HW.out.q.hw,HW.out.hd⟩
end Go.Proofs.YtgeppafcemeidaaGreatDoor
namespace Go.Proofs.YtgeppafcemeidaaGreatDoor
open Go.RowKit
open Sy (N)
namespace Sy
theorem X_un {op n:Int} {nm t:List UInt8} {l:List N} {a:N} (h:l[0]? = some a) :
  X (.mk 12 nm n t l)=[97,119,97,105,116,32]++par (lev 12) a.op (X a)/\X (.mk 13 nm n t l)=[110,111,116,32]++par (lev 13) a.op (X a)/\X (.mk 14 nm n t l)=[45]++par (lev 14) a.op (X a) /\
  X (.mk 28 nm n t l)=par 8 a.op (X a)++([91]++(glue (l.tail.map X)++[93]))/\X (.mk 29 nm n t l)=par 8 a.op (X a)++([46]++nm):=by
 cases l with
 | nil=>cases h
 | cons b r =>
  injection h with h;subst h;refine⟨?_,?_,?_,?_,?_⟩
  ·
   rw [X_mk,Xs];rfl
  ·
   rw [X_mk,Xs];rfl
  ·
   rw [X_mk,Xs];rfl
  ·
   rw [X_mk,Xs,Xs_map];rfl
  ·
   rw [X_mk,Xs];rfl
theorem X_bin {op n:Int} {nm t:List UInt8} {l:List N} {a a2:N} (h:l[0]? = some a) (h2:l[1]? = some a2) (h3:15<=op) (h4:op<=27) :
  X (.mk op nm n t l)=par (lft op) a.op (X a)++32::(sgn op++32::par (lev op+1) a2.op (X a2)):=by
 match l,h,h2 with
 | b::c::r,h,h2 =>
  injection h with h;injection h2 with h2;subst h h2;rw [X_mk,Xs,Xs];rcases op_cases9 h3 h4 with rfl | rfl | rfl | rfl | rfl | rfl | rfl | rfl | rfl | rfl | rfl | rfl | rfl<;>rfl
end Sy
theorem KR.tail_ {w:World} {S:Nat->Prop} {b o c:Nat} {l:List N} (h:KR w S (.slice (some ⟨b,o,none⟩) l.length c) l) (h1:1<=l.length):KR w S (.slice (some ⟨b,o+5,none⟩) l.tail.length (c - 1)) l.tail:=by
 obtain⟨xs,⟨A,c',he,r1,r2,r3,r4⟩,hn⟩:=h;injection he with e1 e2 e3;subst e1 e3;cases l with
 | nil=>simp at h1
 | cons a l =>
  rw [NsC_cons] at hn;obtain⟨c1,c2,rfl,g1,g2⟩:=hn;have hl5:=g1.len5;simp only [List.length_cons,List.tail_cons,List.length_append] at r1 r3 |-
  refine⟨c2,⟨_,_,rfl,by omega,by omega,by omega,?_⟩,g2⟩
  rcases r4 with r4 | ⟨b',o',he,hS,hc⟩
  ·
   simp at r4
  ·
   injection he with he;injection he with e1 e2 e3;subst e1 e2;refine .inr ⟨b,o+5,rfl,hS,fun j u hj=>?_⟩
   have:=hc (5+j) u (by rw [List.getElem?_append_right (by omega),hl5];simpa using hj)
   rwa [show o+5+j=o+(5+j) by omega]
theorem operation_any {m:Nat} (HE:QX m) (g d:Nat) (vb:Option Nat) (S:Nat->Prop) (T:List UInt8) (op n:Int) (nm t:List UInt8) (l:List N) (A:Option Addr) (c:Nat) (w:World) (hq:Wq w g vb S T d) (hk:KR w S (.slice A l.length c) l) (ho:Ok op nm n t l.length) (hop1:12<=op) (hop2:op<=29) (hnd:Sy.need op<=l.length) (hs:∀ v∈l,Sy.N.size v<=m/\Sy.aX v=true) (hn:l.length<=4398046511104) (hl:T.length+(Sy.X (.mk op nm n t l)).length<=1099511627776) :
  Calls Tryz.prog 73 #[.pointer (some ⟨g,0,none⟩),.agg #[.int .i64 op,.string ⟨nm.toArray⟩,.int .i64 n,.string ⟨t.toArray⟩,.slice A l.length c]] w (WP w g vb T (Sy.X (.mk op nm n t l)) d):=by
 have HE:=hid HE;have hl1:1<=l.length:=by unfold Sy.need at hnd;rw [if_neg (by omega)] at hnd;split at hnd<;>omega
 obtain⟨a,h0⟩:∃ a,l[0]? = some a:=⟨l[0],List.getElem?_eq_getElem hl1⟩;obtain⟨hz,ha⟩:=hs a (List.mem_of_getElem? h0);have HZ:=hid hz;have HA:=hid ha;have H0:=hid h0;have HO:=hid ho;obtain⟨b,o,rfl⟩:=(Ws.init (op:=op) (n:=n) (nm:=nm) (t:=t) hq hk).addr h0;have HS:=hid hs;have HN:=hid hn;obtain⟨e12,e13,e14,e28,e29⟩:=Sy.X_un (op:=op) (n:=n) (nm:=nm) (t:=t) h0;have hlen:(0:Int) < (l.length:Int):=by omega
 clear hz ha h0 hs ho hn;by_cases h12:op=12
 ·
  subst h12;rw [e12] at hl |-
  clear e12 e13 e14 e28 e29 hnd hop1 hop2;have HW:=hid (Ws.init (op:=12) (n:=n) (nm:=nm) (t:=t) hq hk);have HL:=hid hl;clear hq hk hl;go_enter Tryz.func73,Tryz.ntmps73;go_wp2_with fail;refine(unary_any HE.out [97,119,97,105,116,32] g d vb S _ _ _ _ _ _ _ _ _ HW.out.q HW.out.kr (by omega) (by omega) a H0.out HZ.out HA.out HL.out).mono ?_
  rintro e w1 ⟨rfl,v1,h1,h2⟩;replace HW:=hid (HW.out.step h1 h2);clear h1 h2;obtain⟨q0,q1,q2,q3,q4⟩:=HW.out.five;go_wp2_with fail;refine bodyPost_end (v:=.tuple #[]) (by simp [results,Tryz.results73]) rfl ⟨rfl,_,by simpa [List.append_assoc] using HW.out.q.hw,HW.out.hd⟩
 by_cases h13:op=13
 ·
  subst h13;rw [e13] at hl |-
  clear e12 e13 e14 e28 e29 hnd hop1 hop2;have HW:=hid (Ws.init (op:=13) (n:=n) (nm:=nm) (t:=t) hq hk);have HL:=hid hl;clear hq hk hl;go_enter Tryz.func73,Tryz.ntmps73;go_wp2_with fail;refine(unary_any HE.out [110,111,116,32] g d vb S _ _ _ _ _ _ _ _ _ HW.out.q HW.out.kr (by omega) (by omega) a H0.out HZ.out HA.out HL.out).mono ?_
  rintro e w1 ⟨rfl,v1,h1,h2⟩;replace HW:=hid (HW.out.step h1 h2);clear h1 h2;obtain⟨q0,q1,q2,q3,q4⟩:=HW.out.five;go_wp2_with fail;refine bodyPost_end (v:=.tuple #[]) (by simp [results,Tryz.results73]) rfl ⟨rfl,_,by simpa [List.append_assoc] using HW.out.q.hw,HW.out.hd⟩
 by_cases h14:op=14
 ·
  subst h14;rw [e14] at hl |-
  clear e12 e13 e14 e28 e29 hnd hop1 hop2;have HW:=hid (Ws.init (op:=14) (n:=n) (nm:=nm) (t:=t) hq hk);have HL:=hid hl;clear hq hk hl;go_enter Tryz.func73,Tryz.ntmps73;go_wp2_with fail;refine(unary_any HE.out [45] g d vb S _ _ _ _ _ _ _ _ _ HW.out.q HW.out.kr (by omega) (by omega) a H0.out HZ.out HA.out HL.out).mono ?_
  rintro e w1 ⟨rfl,v1,h1,h2⟩;replace HW:=hid (HW.out.step h1 h2);clear h1 h2;obtain⟨q0,q1,q2,q3,q4⟩:=HW.out.five;go_wp2_with fail;refine bodyPost_end (v:=.tuple #[]) (by simp [results,Tryz.results73]) rfl ⟨rfl,_,by simpa [List.append_assoc] using HW.out.q.hw,HW.out.hd⟩
 by_cases h28:op=28
 ·
  subst h28;rw [e28] at hl |-
  have hc1:¬ c=1:=by
   intro e;subst e;obtain⟨xs,⟨A2,c2,he,r1,_⟩,_⟩:=hk;injection he with _ _ e3;have:Sy.need 28=2:=rfl;omega
  clear e12 e13 e14 e28 e29 hnd hop1 hop2 h12 h13 h14;have HW:=hid (Ws.init (op:=28) (n:=n) (nm:=nm) (t:=t) hq hk);have HL:=hid hl;clear hq hk hl;go_enter Tryz.func73,Tryz.ntmps73;obtain⟨A0,c0,k00,k01,k02,k03,k04,HN0⟩:=HW.out.kid (e:=o) H0.out (by omega)
  clear k00 k01 k02 k03 k04;have hkid:=HW.out.kid (e:=o) H0.out (by omega)
  obtain⟨A1,c1,k00,k01,k02,k03,k04,HN1⟩:=hkid;go_wp2_with fail;refine(operand_n HE.out 8 (li:=8) (by omega) (by omega) g d vb S _ a _ _ HW.out.q HN1.out HZ.out HA.out (by have:=HL.out;(try simp only [List.length_append,List.length_cons,List.length_nil] at this |-);omega)).mono ?_
  rintro e w1 ⟨rfl,v1,h1,h2⟩;replace HW:=hid (HW.out.step h1 h2);clear h1 h2;obtain⟨q0,q1,q2,q3,q4⟩:=HW.out.five;clear k00 k01 k02 k03 k04;go_wp2_with fail;have CE:=elements_any HE.out g d v1 S _ [91] [93] l.tail _ _ w1 HW.out.q (HW.out.kr.tail_ hl1) (fun v hv=>HS.out v (List.mem_of_mem_tail hv)) (by rw [List.length_tail];have:=HN.out;omega) (by have:=HL.out;(try simp only [List.length_append,List.length_cons,List.length_nil] at this |-);omega)
  rw [List.length_tail] at CE;have CE:=hid CE;refine(CE.out).mono ?_;clear q0 q1 q2 q3 q4;rintro e w2 ⟨rfl,v2,h1,h2⟩;replace HW:=hid (HW.out.step h1 h2);clear h1 h2;obtain⟨q0,q1,q2,q3,q4⟩:=HW.out.five;clear CE;go_wp2_with fail;refine bodyPost_end (v:=.tuple #[]) (by simp [results,Tryz.results73]) rfl ⟨rfl,_,by simpa [List.append_assoc] using HW.out.q.hw,HW.out.hd⟩
 by_cases h29:op=29
 ·
  subst h29;rw [e29] at hl |-
  clear e12 e13 e14 e28 e29 hnd hop1 hop2 h12 h13 h14 h28;have HW:=hid (Ws.init (op:=29) (n:=n) (nm:=nm) (t:=t) hq hk);have HL:=hid hl;clear hq hk hl;obtain⟨A0,c0,k00,k01,k02,k03,k04,HN0⟩:=HW.out.kid (e:=o) H0.out (by omega)
  go_enter Tryz.func73,Tryz.ntmps73;go_wp2_with fail;refine(operand_n HE.out 8 (li:=8) (by omega) (by omega) g d vb S _ a _ _ HW.out.q HN0.out HZ.out HA.out (by have:=HL.out;(try simp only [List.length_append,List.length_cons,List.length_nil] at this |-);omega)).mono ?_
  rintro e w1 ⟨rfl,v1,h1,h2⟩;replace HW:=hid (HW.out.step h1 h2);clear h1 h2;obtain⟨q0,q1,q2,q3,q4⟩:=HW.out.five;clear k00 k01 k02 k03 k04;go_wp2_with fail;refine(put2 g d v1 _ [46] nm _ rfl HW.out.q.hw (by have:=HL.out;(try simp only [List.length_append,List.length_cons,List.length_nil] at this |-);omega)).mono ?_
  clear q0 q1 q2 q3 q4;rintro e w2 ⟨rfl,v2,h1,h2⟩;replace HW:=hid (HW.out.step h1 h2);clear h1 h2;obtain⟨q0,q1,q2,q3,q4⟩:=HW.out.five;go_wp2_with fail;refine bodyPost_end (v:=.tuple #[]) (by simp [results,Tryz.results73]) rfl ⟨rfl,_,by simpa [List.append_assoc] using HW.out.q.hw,HW.out.hd⟩
 have hlen2:2<=l.length:=by unfold Sy.need at hnd;rw [if_neg (by omega),if_neg (by omega)] at hnd;exact hnd
 obtain⟨a2,h1⟩:∃ a2,l[1]? = some a2:=⟨l[1],List.getElem?_eq_getElem hlen2⟩;obtain⟨hz2,ha2⟩:=HS.out a2 (List.mem_of_getElem? h1);have HZ2:=hid hz2;have HA2:=hid ha2;have H1:=hid h1;have hX:=Sy.X_bin (op:=op) (n:=n) (nm:=nm) (t:=t) H0.out h1 (by omega) (by omega)
 rw [hX] at hl |-
 have t1:=ne_b9 h12;have t2:=ne_b9 h13;have t3:=ne_b9 h14;have t4:=ne_b9 h28;have t5:=ne_b9 h29;have HR:=hid (And.intro (show 15<=op by omega) (show op<=27 by omega))
 clear e12 e13 e14 e28 e29 hnd hop1 hop2 h12 h13 h14 h28 h29 hz2 ha2 h1 hX;have HW:=hid (Ws.init (op:=op) (n:=n) (nm:=nm) (t:=t) hq hk);have HL:=hid hl;clear hq hk hl;go_enter Tryz.func73,Tryz.ntmps73;go_wp2_with fail;refine(binary_any HE.out g d vb S _ _ _ _ _ _ _ _ _ HW.out.q HW.out.kr HR.out.1 HR.out.2 a a2 H0.out H1.out HZ.out HA.out HZ2.out HA2.out HL.out).mono ?_;rintro e w1 ⟨rfl,v1,h1,h2⟩;replace HW:=hid (HW.out.step h1 h2);clear h1 h2;obtain⟨q0,q1,q2,q3,q4⟩:=HW.out.five;go_wp2_with fail;refine bodyPost_end (v:=.tuple #[]) (by simp [results,Tryz.results73]) rfl ⟨rfl,_,by simpa [List.append_assoc] using HW.out.q.hw,HW.out.hd⟩
end Go.Proofs.YtgeppafcemeidaaGreatDoor
namespace Go.Proofs.YtgeppafcemeidaaGreatDoor
open Go.RowKit
open Sy (N)
theorem quoteL (t:List UInt8) (w:World) (h:t.length<=4096) :
  Calls Tryz.prog 70 #[.string ⟨t.toArray⟩] w fun e w'=>e=.returned (.string ⟨(Tk.quote t).toArray⟩)/\Below w.heap.size w w':=by
 have:=quote_any ⟨t.toArray⟩ w (by rw [show (⟨t.toArray⟩:ByteArray).size=t.length by simp [ByteArray.size]];omega)
 exact this
namespace Sy
theorem X_lo {n:Int} {nm t:List UInt8} {l:List N} :
  X (.mk 1 nm n t l)=[110,117,108,108]/\X (.mk 2 nm n t l)=[116,114,117,101]/\X (.mk 3 nm n t l)=[102,97,108,115,101]/\X (.mk 4 nm n t l)=Lib.itoa n/\X (.mk 5 nm n t l)=Tk.quote t/\X (.mk 6 nm n t l)=nm:=by
 simp only [X_mk];exact⟨rfl,rfl,rfl,rfl,rfl,rfl⟩
theorem X_mi {n:Int} {nm t:List UInt8} {l:List N} :
  X (.mk 7 nm n t l)=[91]++(glue (l.map X)++[93])/\X (.mk 8 nm n t l)=[123]++(glue (l.map X)++[125])/\X (.mk 10 nm n t l)=[]++(nm++40::(glue (l.map X)++[41]))/\X (.mk 11 nm n t l)=[103,111,32]++(nm++40::(glue (l.map X)++[41])):=by
 simp only [X_mk,Xs_map];exact⟨rfl,rfl,rfl,rfl⟩
theorem X_pr {n:Int} {nm t:List UInt8} {l:List N} {a:N} (h:l[0]? = some a):X (.mk 9 nm n t l)=(Tk.quote t++[58,32])++X a:=by
 cases l with
 | nil=>cases h
 | cons b r =>
  injection h with h;subst h;rw [X_mk,Xs,List.append_assoc];rfl
end Sy
theorem expr_step {m:Nat} (HE:QX m) (op n:Int) (nm t:List UInt8) (l:List N) (a:Value) (w:World) (g d:Nat) (vb:Option Nat) (S:Nat->Prop) (T:List UInt8) (hz:Sy.N.size (.mk op nm n t l)<=m+1) (ha:Sy.aX (.mk op nm n t l)=true) (hq:Wq w g vb S T d) (hna:NA w S a (.mk op nm n t l)) (hl:T.length+(Sy.X (.mk op nm n t l)).length<=1099511627776) :
  Calls Tryz.prog 41 #[.pointer (some ⟨g,0,none⟩),a] w (WP w g vb T (Sy.X (.mk op nm n t l)) d):=by
 obtain⟨hop1,hop2,hnd,hal,ht⟩:=Sy.aX_mk ha;obtain⟨A,c,rfl,ho,hk⟩:=hna.open_;simp only [Sy.N.op,Sy.N.nm,Sy.N.n,Sy.N.t,Sy.N.l] at ho hk |-
 obtain⟨hn0,hn1⟩ : -9223372036854775808<=n/\n<=9223372036854775807:=⟨ho.2.2.1,ho.2.2.2.1⟩;have HO:=hid ho;have hs:∀ v∈l,Sy.N.size v<=m/\Sy.aX v=true:=fun v hv=>by
  have h1:=Sy.N.size_mem hv;rw [Sy.N.size_mk] at hz;rw [Sy.aXs_all] at hal;exact⟨by omega,List.all_eq_true.1 hal v hv⟩
 have hn:l.length<=4398046511104:=by
  have h1:=ho.2.2.2.2.2.2;omega
 have HS:=hid hs;have HN:=hid hn;have HT:=hid ht;have HE:=hid HE;have HG:=hid hq.gd;have CI:=hid (fun W hW=>itoa_any n W (HG.out.good.below hW) hn0 hn1)
 have CQ:=hid (fun W=>quoteL t W ht)
 obtain⟨x1,x2,x3,x4,x5,x6⟩:=Sy.X_lo (n:=n) (nm:=nm) (t:=t) (l:=l);obtain⟨x7,x8,x10,x11⟩:=Sy.X_mi (n:=n) (nm:=nm) (t:=t) (l:=l);clear hz ha hal ht hna ho hs hn hn0 hn1;by_cases z1:op=1
 ·
  subst z1;rw [x1] at hl |-
  clear x1 x2 x3 x4 x5 x6 x7 x8 x10 x11 hnd hop1 hop2;have HW:=hid (Ws.init (op:=1) (n:=n) (nm:=nm) (t:=t) hq hk);have HL:=hid hl;clear hq hk hl;go_enter Tryz.func41,Tryz.ntmps41;go_wp2_with fail;refine(put1 g d vb _ [110,117,108,108] _ (b:=w.heap.size+1) (by simp) HW.out.q.hw (by have:=HL.out;(try simp only [List.length_append,List.length_cons,List.length_nil] at this |-);omega)).mono ?_
  rintro e w1 ⟨rfl,v1,h1,h2⟩;replace HW:=hid (HW.out.step h1 h2);clear h1 h2;obtain⟨q0,q1,q2,q3,q4⟩:=HW.out.five;go_wp2_with fail;refine bodyPost_end (v:=.tuple #[]) (by simp [results,Tryz.results41]) rfl ⟨rfl,_,by simpa [List.append_assoc] using HW.out.q.hw,HW.out.hd⟩
 by_cases z2:op=2
 ·
  subst z2;rw [x2] at hl |-
  clear x1 x2 x3 x4 x5 x6 x7 x8 x10 x11 hnd hop1 hop2 z1;have HW:=hid (Ws.init (op:=2) (n:=n) (nm:=nm) (t:=t) hq hk);have HL:=hid hl;clear hq hk hl;go_enter Tryz.func41,Tryz.ntmps41;go_wp2_with fail;refine(put1 g d vb _ [116,114,117,101] _ (b:=w.heap.size+1) (by simp) HW.out.q.hw (by have:=HL.out;(try simp only [List.length_append,List.length_cons,List.length_nil] at this |-);omega)).mono ?_
  rintro e w1 ⟨rfl,v1,h1,h2⟩;replace HW:=hid (HW.out.step h1 h2);clear h1 h2;obtain⟨q0,q1,q2,q3,q4⟩:=HW.out.five;go_wp2_with fail;refine bodyPost_end (v:=.tuple #[]) (by simp [results,Tryz.results41]) rfl ⟨rfl,_,by simpa [List.append_assoc] using HW.out.q.hw,HW.out.hd⟩
 by_cases z3:op=3
 ·
  subst z3;rw [x3] at hl |-
  clear x1 x2 x3 x4 x5 x6 x7 x8 x10 x11 hnd hop1 hop2 z1 z2;have HW:=hid (Ws.init (op:=3) (n:=n) (nm:=nm) (t:=t) hq hk);have HL:=hid hl;clear hq hk hl;go_enter Tryz.func41,Tryz.ntmps41;go_wp2_with fail;refine(put1 g d vb _ [102,97,108,115,101] _ (b:=w.heap.size+1) (by simp) HW.out.q.hw (by have:=HL.out;(try simp only [List.length_append,List.length_cons,List.length_nil] at this |-);omega)).mono ?_
  rintro e w1 ⟨rfl,v1,h1,h2⟩;replace HW:=hid (HW.out.step h1 h2);clear h1 h2;obtain⟨q0,q1,q2,q3,q4⟩:=HW.out.five;go_wp2_with fail;refine bodyPost_end (v:=.tuple #[]) (by simp [results,Tryz.results41]) rfl ⟨rfl,_,by simpa [List.append_assoc] using HW.out.q.hw,HW.out.hd⟩
 by_cases z4:op=4
 ·
  subst z4;rw [x4] at hl |-
  clear x1 x2 x3 x4 x5 x6 x7 x8 x10 x11 hnd hop1 hop2 z1 z2 z3;have HW:=hid (Ws.init (op:=4) (n:=n) (nm:=nm) (t:=t) hq hk);have HL:=hid hl;clear hq hk hl;generalize Lib.itoa n=it at *;go_enter Tryz.func41,Tryz.ntmps41;go_wp2_with fail;refine(CI.out _ (bl _)).mono ?_;rintro e w0 ⟨rfl,hb⟩;replace HW:=hid (HW.out.below hb);clear hb;unfold strOf;go_wp2_with fail;refine(put1 g d vb _ it _ rfl HW.out.q.hw (by have:=HL.out;(try simp only [List.length_append,List.length_cons,List.length_nil] at this |-);omega)).mono ?_
  rintro e w1 ⟨rfl,v1,h1,h2⟩;replace HW:=hid (HW.out.step h1 h2);clear h1 h2;obtain⟨q0,q1,q2,q3,q4⟩:=HW.out.five;go_wp2_with fail;refine bodyPost_end (v:=.tuple #[]) (by simp [results,Tryz.results41]) rfl ⟨rfl,_,by simpa [List.append_assoc] using HW.out.q.hw,HW.out.hd⟩
 by_cases z5:op=5
 ·
  subst z5;rw [x5] at hl |-
  clear x1 x2 x3 x4 x5 x6 x7 x8 x10 x11 hnd hop1 hop2 z1 z2 z3 z4;have HW:=hid (Ws.init (op:=5) (n:=n) (nm:=nm) (t:=t) hq hk);have HL:=hid hl;clear hq hk hl;generalize Tk.quote t=it at *;go_enter Tryz.func41,Tryz.ntmps41;go_wp2_with fail;refine(CQ.out _).mono ?_;rintro e w0 ⟨rfl,hb⟩;replace HW:=hid (HW.out.below hb);clear hb;go_wp2_with fail;refine(put1 g d vb _ it _ rfl HW.out.q.hw (by have:=HL.out;(try simp only [List.length_append,List.length_cons,List.length_nil] at this |-);omega)).mono ?_
  rintro e w1 ⟨rfl,v1,h1,h2⟩;replace HW:=hid (HW.out.step h1 h2);clear h1 h2;obtain⟨q0,q1,q2,q3,q4⟩:=HW.out.five;go_wp2_with fail;refine bodyPost_end (v:=.tuple #[]) (by simp [results,Tryz.results41]) rfl ⟨rfl,_,by simpa [List.append_assoc] using HW.out.q.hw,HW.out.hd⟩
 by_cases z6:op=6
 ·
  subst z6;rw [x6] at hl |-
  clear x1 x2 x3 x4 x5 x6 x7 x8 x10 x11 hnd hop1 hop2 z1 z2 z3 z4 z5;have HW:=hid (Ws.init (op:=6) (n:=n) (nm:=nm) (t:=t) hq hk);have HL:=hid hl;clear hq hk hl;go_enter Tryz.func41,Tryz.ntmps41;go_wp2_with fail;refine(put1 g d vb _ nm _ (b:=w.heap.size+1) (by simp) HW.out.q.hw (by have:=HL.out;(try simp only [List.length_append,List.length_cons,List.length_nil] at this |-);omega)).mono ?_
  rintro e w1 ⟨rfl,v1,h1,h2⟩;replace HW:=hid (HW.out.step h1 h2);clear h1 h2;obtain⟨q0,q1,q2,q3,q4⟩:=HW.out.five;go_wp2_with fail;refine bodyPost_end (v:=.tuple #[]) (by simp [results,Tryz.results41]) rfl ⟨rfl,_,by simpa [List.append_assoc] using HW.out.q.hw,HW.out.hd⟩
 by_cases z7:op=7
 ·
  subst z7;rw [x7] at hl |-
  clear x1 x2 x3 x4 x5 x6 x7 x8 x10 x11 hnd hop1 hop2 z1 z2 z3 z4 z5 z6;have HW:=hid (Ws.init (op:=7) (n:=n) (nm:=nm) (t:=t) hq hk);have HL:=hid hl;clear hq hk hl;go_enter Tryz.func41,Tryz.ntmps41;go_wp2_with fail;refine(elements_any HE.out g d vb S _ [91] [93] l _ _ _ HW.out.q HW.out.kr HS.out HN.out HL.out).mono ?_;rintro e w1 ⟨rfl,v1,h1,h2⟩;replace HW:=hid (HW.out.step h1 h2);clear h1 h2;obtain⟨q0,q1,q2,q3,q4⟩:=HW.out.five;go_wp2_with fail;refine bodyPost_end (v:=.tuple #[]) (by simp [results,Tryz.results41]) rfl ⟨rfl,_,by simpa [List.append_assoc] using HW.out.q.hw,HW.out.hd⟩
 by_cases z8:op=8
 ·
  subst z8;rw [x8] at hl |-
  clear x1 x2 x3 x4 x5 x6 x7 x8 x10 x11 hnd hop1 hop2 z1 z2 z3 z4 z5 z6 z7;have HW:=hid (Ws.init (op:=8) (n:=n) (nm:=nm) (t:=t) hq hk);have HL:=hid hl;clear hq hk hl;go_enter Tryz.func41,Tryz.ntmps41;go_wp2_with fail;refine(elements_any HE.out g d vb S _ [123] [125] l _ _ _ HW.out.q HW.out.kr HS.out HN.out HL.out).mono ?_;rintro e w1 ⟨rfl,v1,h1,h2⟩;replace HW:=hid (HW.out.step h1 h2);clear h1 h2;obtain⟨q0,q1,q2,q3,q4⟩:=HW.out.five;go_wp2_with fail;refine bodyPost_end (v:=.tuple #[]) (by simp [results,Tryz.results41]) rfl ⟨rfl,_,by simpa [List.append_assoc] using HW.out.q.hw,HW.out.hd⟩
 by_cases z9:op=9
 ·
  subst z9;obtain⟨b,h0⟩:∃ b,l[0]? = some b:=⟨l[0]'(by have:Sy.need 9=1:=rfl;omega),List.getElem?_eq_getElem _⟩
  have hlen:(0:Int) < (l.length:Int):=by have:=(List.getElem?_eq_some_iff.1 h0).1;omega
  rw [Sy.X_pr h0] at hl |-
  obtain⟨hz,ha⟩:=HS.out b (List.mem_of_getElem? h0);have HZ:=hid hz;have HA:=hid ha;have H0:=hid h0;clear hz ha
  rename N=>kd
  clear x1 x2 x3 x4 x5 x6 x7 x8 x10 x11 hnd hop1 hop2 z1 z2 z3 z4 z5 z6 z7 z8;have HW:=hid (Ws.init (op:=9) (n:=n) (nm:=nm) (t:=t) hq hk);obtain⟨b,o,rfl⟩:=HW.out.addr h0;have HL:=hid hl;clear hq hk hl;clear h0;generalize Tk.quote t=it at *;go_enter Tryz.func41,Tryz.ntmps41;go_wp2_with fail;refine(CQ.out _).mono ?_;rintro e w0 ⟨rfl,hb⟩;replace HW:=hid (HW.out.below hb);clear hb;go_wp2_with fail;refine(put2 g d vb _ it [58,32] _ rfl HW.out.q.hw (by have:=HL.out;(try simp only [List.length_append,List.length_cons,List.length_nil] at this |-);omega)).mono ?_
  rintro e w1 ⟨rfl,v1,h1,h2⟩;replace HW:=hid (HW.out.step h1 h2);clear h1 h2;obtain⟨q0,q1,q2,q3,q4⟩:=HW.out.five;obtain⟨A0,c0,k00,k01,k02,k03,k04,HN0⟩:=HW.out.kid (e:=o) H0.out (by omega)
  go_wp2_with fail
  refine(HE.out _ _ _ _ _ _ _ _ HZ.out HA.out HW.out.q HN0.out (by have:=HL.out;(try simp only [List.length_append,List.length_cons,List.length_nil] at this |-);omega)).mono ?_
  clear q0 q1 q2 q3 q4;rintro e w2 ⟨rfl,v2,h1,h2⟩;replace HW:=hid (HW.out.step h1 h2);clear h1 h2;obtain⟨q0,q1,q2,q3,q4⟩:=HW.out.five;go_wp2_with fail;refine bodyPost_end (v:=.tuple #[]) (by simp [results,Tryz.results41]) rfl ⟨rfl,_,by simpa [List.append_assoc] using HW.out.q.hw,HW.out.hd⟩
 by_cases z10:op=10
 ·
  subst z10;rw [x10] at hl |-
  clear x1 x2 x3 x4 x5 x6 x7 x8 x10 x11 hnd hop1 hop2 z1 z2 z3 z4 z5 z6 z7 z8 z9;have HW:=hid (Ws.init (op:=10) (n:=n) (nm:=nm) (t:=t) hq hk);have HL:=hid hl;clear hq hk hl;go_enter Tryz.func41,Tryz.ntmps41;go_wp2_with fail;refine(call_any HE.out [] g d vb S _ _ _ _ _ _ _ _ _ HW.out.q HW.out.kr HS.out HN.out HL.out).mono ?_;rintro e w1 ⟨rfl,v1,h1,h2⟩;replace HW:=hid (HW.out.step h1 h2);clear h1 h2;obtain⟨q0,q1,q2,q3,q4⟩:=HW.out.five;go_wp2_with fail;refine bodyPost_end (v:=.tuple #[]) (by simp [results,Tryz.results41]) rfl ⟨rfl,_,by simpa [List.append_assoc] using HW.out.q.hw,HW.out.hd⟩
 by_cases z11:op=11
 ·
  subst z11;rw [x11] at hl |-
  clear x1 x2 x3 x4 x5 x6 x7 x8 x10 x11 hnd hop1 hop2 z1 z2 z3 z4 z5 z6 z7 z8 z9 z10;have HW:=hid (Ws.init (op:=11) (n:=n) (nm:=nm) (t:=t) hq hk);have HL:=hid hl;clear hq hk hl;go_enter Tryz.func41,Tryz.ntmps41;go_wp2_with fail;refine(call_any HE.out [103,111,32] g d vb S _ _ _ _ _ _ _ _ _ HW.out.q HW.out.kr HS.out HN.out HL.out).mono ?_;rintro e w1 ⟨rfl,v1,h1,h2⟩;replace HW:=hid (HW.out.step h1 h2);clear h1 h2;obtain⟨q0,q1,q2,q3,q4⟩:=HW.out.five;go_wp2_with fail;refine bodyPost_end (v:=.tuple #[]) (by simp [results,Tryz.results41]) rfl ⟨rfl,_,by simpa [List.append_assoc] using HW.out.q.hw,HW.out.hd⟩
 have t1:=ne_b9 z1;have t2:=ne_b9 z2;have t3:=ne_b9 z3;have t4:=ne_b9 z4;have t5:=ne_b9 z5;have t6:=ne_b9 z6;have t7:=ne_b9 z7;have t8:=ne_b9 z8;have t9:=ne_b9 z9;have t10:=ne_b9 z10;have t11:=ne_b9 z11;have HP:=hid (And.intro (show 12<=op by omega) (And.intro hop2 hnd))
 clear x1 x2 x3 x4 x5 x6 x7 x8 x10 x11 hnd hop1 hop2 z1 z2 z3 z4 z5 z6 z7 z8 z9 z10 z11;have HW:=hid (Ws.init (op:=op) (n:=n) (nm:=nm) (t:=t) hq hk);have HL:=hid hl;clear hq hk hl;go_enter Tryz.func41,Tryz.ntmps41;go_wp2_with fail;refine(operation_any HE.out g d vb S _ _ _ _ _ _ _ _ _ HW.out.q HW.out.kr HO.out HP.out.1 HP.out.2.1 HP.out.2.2 HS.out HN.out HL.out).mono ?_;rintro e w1 ⟨rfl,v1,h1,h2⟩;replace HW:=hid (HW.out.step h1 h2);clear h1 h2;obtain⟨q0,q1,q2,q3,q4⟩:=HW.out.five;go_wp2_with fail;refine bodyPost_end (v:=.tuple #[]) (by simp [results,Tryz.results41]) rfl ⟨rfl,_,by simpa [List.append_assoc] using HW.out.q.hw,HW.out.hd⟩
theorem expr_all:∀ m,QX m
 | 0=>fun v _ _ _ _ _ _ _ hz=>by have:=Sy.N.size_pos v;omega
 | m+1=>fun v a w g d vb S T hz ha hq hna hl=>by
  obtain⟨op,nm,n,t,l⟩:=v;exact expr_step (expr_all m) op n nm t l a w g d vb S T hz ha hq hna hl
end Go.Proofs.YtgeppafcemeidaaGreatDoor
namespace Go.Proofs.YtgeppafcemeidaaGreatDoor
open Go.Shelf
def Tryz.lays105_ren:Go.Shelf.Ren:=⟨fun | 105=>208 | 212=>226 | 99=>227 | 165=>228 | 166=>229 | 170=>230 | 169=>231 | 263=>243 | 264=>244 | 206=>245 | 240=>246 | 241=>247 | 276=>249 | 277=>250 | n=>n,fun | 9=>9 | 3=>3 | 4=>4 | 20=>20 | 0=>0 | 46=>140 | 109=>155 | 5=>5 | 72=>160 | 76=>162 | 51=>146 | 146=>170 | 53=>134 | 148=>172 | 70=>158 | 37=>70 | 75=>122 | 127=>174 | 164=>180 | 80=>92 | n=>n,fun | n=>n⟩
theorem Tryz.lays105:Go.Proofs.Lays.n105 Tryz.prog Tryz.lays105_ren:={
 mixed:=by kernel_rfl
 f99:=Tryz.func227.trans (congrArg some (by kernel_rfl))
 f105:=Tryz.func208.trans (congrArg some (by kernel_rfl))
 f165:=Tryz.func228.trans (congrArg some (by kernel_rfl))
 f166:=Tryz.func229.trans (congrArg some (by kernel_rfl))
 f169:=Tryz.func231.trans (congrArg some (by kernel_rfl))
 f170:=Tryz.func230.trans (congrArg some (by kernel_rfl))
 f206:=Tryz.func245.trans (congrArg some (by kernel_rfl))
 f212:=Tryz.func226.trans (congrArg some (by kernel_rfl))
 f240:=Tryz.func246.trans (congrArg some (by kernel_rfl))
 f241:=Tryz.func247.trans (congrArg some (by kernel_rfl))
 f263:=Tryz.func243.trans (congrArg some (by kernel_rfl))
 f264:=Tryz.func244.trans (congrArg some (by kernel_rfl))
 f276:=Tryz.func249.trans (congrArg some (by kernel_rfl))
 f277:=Tryz.func250.trans (congrArg some (by kernel_rfl))
 t0:=Tryz.underlying0
 a0:=Tryz.isAgg0
 z0:=Tryz.sizeOf0
 v0:=Tryz.zeroValue0
 t3:=Tryz.underlying3
 a3:=Tryz.isAgg3
 z3:=Tryz.sizeOf3
 v3:=Tryz.zeroValue3
 t4:=Tryz.underlying4
 a4:=Tryz.isAgg4
 z4:=Tryz.sizeOf4
 v4:=Tryz.zeroValue4
 t5:=Tryz.underlying5
 a5:=Tryz.isAgg5
 z5:=Tryz.sizeOf5
 v5:=Tryz.zeroValue5
 t9:=Tryz.underlying9
 a9:=Tryz.isAgg9
 z9:=Tryz.sizeOf9
 v9:=Tryz.zeroValue9
 t20:=Tryz.underlying20
 a20:=Tryz.isAgg20
 z20:=Tryz.sizeOf20
 v20:=Tryz.zeroValue20
 t37:=Tryz.underlying70
 a37:=Tryz.isAgg70
 z37:=Tryz.sizeOf70
 v37:=Tryz.zeroValue70
 t46:=Tryz.underlying140
 a46:=Tryz.isAgg140
 z46:=Tryz.sizeOf140
 v46:=Tryz.zeroValue140
 t51:=Tryz.underlying146
 a51:=Tryz.isAgg146
 z51:=Tryz.sizeOf146
 v51:=Tryz.zeroValue146
 t53:=Tryz.underlying134
 a53:=Tryz.isAgg134
 z53:=Tryz.sizeOf134
 v53:=Tryz.zeroValue134
 t70:=Tryz.underlying158
 a70:=Tryz.isAgg158
 z70:=Tryz.sizeOf158
 v70:=Tryz.zeroValue158
 t72:=Tryz.underlying160
 a72:=Tryz.isAgg160
 z72:=Tryz.sizeOf160
 v72:=Tryz.zeroValue160
 t75:=Tryz.underlying122
 a75:=Tryz.isAgg122
 z75:=Tryz.sizeOf122
 v75:=Tryz.zeroValue122
 t76:=Tryz.underlying162
 a76:=Tryz.isAgg162
 z76:=Tryz.sizeOf162
 v76:=Tryz.zeroValue162
 t109:=Tryz.underlying155
 a109:=Tryz.isAgg155
 z109:=Tryz.sizeOf155
 v109:=Tryz.zeroValue155
 t127:=Tryz.underlying174
 a127:=Tryz.isAgg174
 z127:=Tryz.sizeOf174
 v127:=Tryz.zeroValue174
 t146:=Tryz.underlying170
 a146:=Tryz.isAgg170
 z146:=Tryz.sizeOf170
 v146:=Tryz.zeroValue170
 t148:=Tryz.underlying172
 a148:=Tryz.isAgg172
 z148:=Tryz.sizeOf172
 v148:=Tryz.zeroValue172
 t164:=Tryz.underlying180
 a164:=Tryz.isAgg180
 z164:=Tryz.sizeOf180
 v164:=Tryz.zeroValue180 }
theorem Tryz.Builder_Extra_105:Builder.Extra Tryz.prog Tryz.lays105_ren:={
 sizeBuilder:=by kernel_rfl
 liesBuilder:=by kernel_rfl
 t5:=Tryz.underlying5
 a5:=Tryz.isAgg5
 z5:=Tryz.sizeOf5
 v5:=Tryz.zeroValue5
 infoByte:=by kernel_rfl
 cellsByte:=by kernel_rfl
 sizeByte:=by kernel_rfl
 neB5:=by decide }
open Go.RowKit Go.Lib in
theorem Tryz.strings_Repeat (s:ByteArray) (c:Nat) (w:World) (hc:c<=9223372036854775807) (hlen:s.size * c<=140737488355328) :
 Calls Tryz.prog 208 #[.string s,.int .i64 c] w fun e w'=>e=.returned (.string ⟨(Lib.repeatL s.data.toList c).toArray⟩)/\Below w.heap.size w w':=Any.strings_Repeat Tryz.lays105 Tryz.Builder_Extra_105 s c w hc hlen
end Go.Proofs.YtgeppafcemeidaaGreatDoor
namespace Go.Proofs.YtgeppafcemeidaaGreatDoor
open Go.RowKit
open Sy (N)
theorem repeat_sp (d:Nat):Lib.repeatL [32] d=Sy.sp d:=by
 have:=Lib.repeatL_replicate 32 1 d;rw [Nat.mul_one] at this;exact this
theorem begin_any (g d:Nat) (vb:Option Nat) (S:Nat->Prop) (T:List UInt8) (w:World) (hq:Wq w g vb S T d) (hd:d<=2000000000) (hl:T.length+(Sy.sp d).length<=1099511627776) :
  Calls Tryz.prog 181 #[.pointer (some ⟨g,0,none⟩)] w (WP w g vb T (Sy.sp d) d):=by
 have hi:=hq.hw.ind;have HQ:=hid hq;have HL:=hid hl;have CR:=hid (Tryz.strings_Repeat ⟨#[32]⟩ d w (by omega) (by show 1 * d<=_;omega))
 rw [show (⟨#[32]⟩:ByteArray).data.toList=[32] from rfl,repeat_sp] at CR
 clear hq hl;generalize Sy.sp d=s at *;go_enter Tryz.func181,Tryz.ntmps181;go_wp2_with fail;refine CR.out.mono ?_;rintro e w1 ⟨rfl,hb⟩;have HB:=hid hb;clear hb;go_wp2_with fail;refine(put1 g d vb _ s _ rfl (HQ.out.below HB.out).hw HL.out).mono ?_;rintro e w2 ⟨rfl,v2,h1,h2⟩;have H1:=hid h1;have H2:=hid ((Wd.of_below HB.out).trans h2);clear h1 h2;go_wp2_with fail;refine bodyPost_end (v:=.tuple #[]) (by simp [results,Tryz.results181]) rfl ⟨rfl,v2,H1.out,H2.out⟩
section
variable {w w1 w2 wr:World} {g d e:Nat} {vb vr v2:Option Nat} {S:Nat->Prop} {T:List UInt8}
theorem Wr.setInd (h:Wr w g vb T d) {x:Int} (hx:x=(e:Int)):Wr (w.setCell ⟨g,1,none⟩ (.int .i64 x)) g vb T e/\Wd g vb w (w.setCell ⟨g,1,none⟩ (.int .i64 x)) vb:=by
 subst hx;obtain⟨u,h1,h2,h3,h4⟩:=h;have hoth:∀ k,k≠g->(w.setCell ⟨g,1,none⟩ (.int .i64 (e:Int))).heap[k]? = w.heap[k]?:=fun k hk=>Below.heap_setCell w ⟨g,1,none⟩ _ k hk
 refine⟨⟨u,?_,own_other h2 hoth (h3 ▸ h4),h3,h4⟩,⟨rfl,rfl,rfl,by simp [World.setCell],fun k _ hkg _=>hoth k hkg,.inl rfl⟩⟩
 simp only [World.setCell];rw [Array.getElem?_modify];simp only [if_true];rw [h1];simp
theorem box_keep {cs:Array Value} {t:TypeId} (hq:Wq wr g vr S T d) (h2:Wd g vr (wr.alloc (.cells cs t)) w2 v2):w2.heap[wr.heap.size]? = some (.cells cs t (0,0)) :=
 (h2.block wr.heap.size (by simp) (by have:=hq.hw.lt;omega) (fun e=>by have:=hq.hw.own _ e.symm;omega)).trans (heap_alloc_new wr _)
end
namespace Sy
theorem lines_take {d i:Nat} {l:List N} {k:Nat} (h:k < l.length):lines d (Ps (l.take (k+1)) i)=lines d (Ps (l.take k) i)++(sp (d+2)++(P l[k] i++[10])):=by
 rw [Ps_map,Ps_map,List.take_succ_eq_append_getElem h,List.map_append];unfold lines;rw [List.flatMap_append];simp
theorem lines_le (d i:Nat) (l:List N) (k:Nat):(lines d (Ps (l.take k) i)).length<=(lines d (Ps l i)).length:=by
 have:lines d (Ps l i)=lines d (Ps (l.take k) i)++lines d (Ps (l.drop k) i):=by
  rw [Ps_map,Ps_map,Ps_map];unfold lines;rw [<- List.flatMap_append,<- List.map_append,List.take_append_drop]
 rw [this,List.length_append];omega
end Sy
def QS (m:Nat):Prop:=∀ (v:N) (a:Value) (w:World) (g d:Nat) (vb:Option Nat) (S:Nat->Prop) (T:List UInt8),Sy.N.size v<=m->Sy.aP v=true->40<=v.op->v.op<=52->d+2 * m<=2000000000->Wq w g vb S T d->NA w S a v->T.length+(Sy.P v d).length<=1099511627776 ->
 Calls Tryz.prog 182 #[.pointer (some ⟨g,0,none⟩),a] w (WP w g vb T (Sy.P v d) d)
def BlkRel (w:World) (g:Nat) (vb:Option Nat) (S:Nat->Prop) (op n:Int) (nm t:List UInt8) (l:List N) (A:Option Addr) (c:Nat) (T:List UInt8) (d:Nat) (v:Value) (wr:World):Prop :=
 ∃ (k:Nat) (vr:Option Nat),k<=l.length/\v=.int .i64 (k:Int)/\Ws w g vb S op n nm t l A c (T++([123,10]++Sy.lines d (Sy.Ps (l.take k) (d+2)))) (d+2) wr vr
theorem block_any {m:Nat} (HE:QS m) (g d:Nat) (vb:Option Nat) (S:Nat->Prop) (T:List UInt8) (op n:Int) (nm t:List UInt8) (l:List N) (A:Option Addr) (c:Nat) (w:World) (hq:Wq w g vb S T d) (hk:KR w S (.slice A l.length c) l) (hd:d+2+2 * m<=2000000000) (hs:∀ v∈l,Sy.N.size v<=m/\Sy.aP v=true/\40<=v.op/\v.op<=52) (hn:l.length<=4398046511104) (hl:T.length+(Sy.blk d (Sy.Ps l (d+2))).length<=1099511627776) :
  Calls Tryz.prog 156 #[.pointer (some ⟨g,0,none⟩),.agg #[.int .i64 op,.string ⟨nm.toArray⟩,.int .i64 n,.string ⟨t.toArray⟩,.slice A l.length c]] w (WP w g vb T (Sy.blk d (Sy.Ps l (d+2))) d):=by
 have HE:=hid HE;have HS:=hid hs;clear hs;have HBK:Hid (Sy.blk d (Sy.Ps l (d+2))=[123,10]++(Sy.lines d (Sy.Ps l (d+2))++(Sy.sp d++[125]))):=rfl;rw [HBK.out] at hl |-
 have HW:=hid (Ws.init (op:=op) (n:=n) (nm:=nm) (t:=t) hq hk);have HL:=hid hl;clear hq hk hl;go_enter Tryz.func156,Tryz.ntmps156;go_wp2_with fail;refine(put1 g d vb _ [123,10] _ (b:=w.heap.size+1) (by simp) HW.out.q.hw (by have:=HL.out;(try simp only [List.length_append,List.length_cons,List.length_nil] at this |-);omega)).mono ?_
 rintro e w1 ⟨rfl,v1,h1,h2⟩;replace HW:=hid (HW.out.step h1 h2);clear h1 h2;obtain⟨q0,q1,q2,q3,q4⟩:=HW.out.five;have hi:=HW.out.q.hw.ind;have hf:=HW.out.q.hw.free 1;obtain⟨s1,s2⟩:=HW.out.q.hw.setInd (e:=d+2) (x:=(d:Int)+2) (by omega)
 replace HW:=hid (HW.out.step s1 s2);clear s1 s2 q0 q1 q2 q3 q4;obtain⟨_,_,_,_,q4⟩:=HW.out.five;go_wp2_with fail;have hat:BlkRel w g vb S op n nm t l A c T d (.int .i64 0) (w1.setCell ⟨g,1,none⟩ (.int .i64 ((d:Int)+2))):=⟨0,v1,Nat.zero_le _,rfl,by have:=HW.out;simpa [Sy.Ps,Sy.lines] using this⟩
 clear HW q4 hi hf
 go_loopw [19] (fun v19 wr=>BlkRel w g vb S op n nm t l A c T d v19 wr) (fun v19 _=>l.length - (intOf v19).toNat)
 case atStart=>exact hat
 case round =>
  clear hat;obtain⟨k,vr,hk,rfl,hws⟩:=hrel;have HR:=hid hws;clear hws;by_cases hlt:k < l.length
  ·
   have h0:l[k]? = some l[k]:=List.getElem?_eq_getElem hlt;obtain⟨b,o,rfl⟩:=HR.out.addr h0;obtain⟨A0,c0,k00,k01,k02,k03,k04,HN0⟩:=HR.out.kid (e:=o+k * 5) h0 rfl;obtain⟨hz,ha,h40,h52⟩:=HS.out l[k] (List.getElem_mem hlt);have HZ:=hid (And.intro hz (And.intro ha (And.intro h40 h52)));have HT:Hid (T++([123,10]++Sy.lines d (Sy.Ps (l.take (k+1)) (d+2)))=(T++([123,10]++Sy.lines d (Sy.Ps (l.take k) (d+2))))++(Sy.sp (d+2)++(Sy.P l[k] (d+2)++[10]))):=by
    show _=_;rw [Sy.lines_take hlt];simp only [List.append_assoc]
   have HB:Hid ((T++([123,10]++Sy.lines d (Sy.Ps (l.take k) (d+2)))).length+(Sy.sp (d+2)++(Sy.P l[k] (d+2)++[10])).length<=1099511627776):=by
    show _<=_;rw [<- List.length_append,<- HT.out];have:=HL.out;have h3:=Sy.lines_le d (d+2) l (k+1);simp only [List.length_append,List.length_cons,List.length_nil] at this |-
    omega
   clear hz ha h40 h52 h0;generalize T++([123,10]++Sy.lines d (Sy.Ps (l.take k) (d+2)))=T1 at *;generalize l[k]=kd at *;have HX:=hid (bl (w:=wr) (.cells #[.int .i64 kd.op,.string ⟨kd.nm.toArray⟩,.int .i64 kd.n,.string ⟨kd.t.toArray⟩,.slice A0 kd.l.length c0] 25));go_wp2_with fail;refine(begin_any g (d+2) vr S T1 _ (HR.out.q.below HX.out) (by omega) (by have:=HB.out;simp only [List.length_append,List.length_cons,List.length_nil] at this |-;omega)).mono ?_
   clear k00 k01 k02 k03 k04;rintro e w2 ⟨rfl,v2,h1,h2⟩;have hbx:=cellAt (box_keep HR.out.q h2);have q0:w2.cell? ⟨wr.heap.size,0,none⟩=some (.int .i64 kd.op):=by simpa using hbx 0
   have q1:w2.cell? ⟨wr.heap.size,1,none⟩=some (.string ⟨kd.nm.toArray⟩):=by simpa using hbx 1
   have q2:w2.cell? ⟨wr.heap.size,2,none⟩=some (.int .i64 kd.n):=by simpa using hbx 2
   have q3:w2.cell? ⟨wr.heap.size,3,none⟩=some (.string ⟨kd.t.toArray⟩):=by simpa using hbx 3
   have q4:w2.cell? ⟨wr.heap.size,4,none⟩=some (.slice A0 kd.l.length c0):=by simpa using hbx 4
   have hc2:=(Wd.of_below (g:=g) (vb:=vr) HX.out).trans h2;replace HN0:=hid (HN0.out.wd HR.out.q.sf hc2);replace HR:=hid (HR.out.step h1 hc2);clear h1 h2 hc2 hbx HX;go_wp2_with fail;refine(HE.out kd _ _ _ _ _ _ _ HZ.out.1 HZ.out.2.1 HZ.out.2.2.1 HZ.out.2.2.2 hd HR.out.q HN0.out (by have:=HB.out;simp only [List.length_append,List.length_cons,List.length_nil] at this |-;omega)).mono ?_
   clear q0 q1 q2 q3 q4;rintro e w3 ⟨rfl,v3,h1,h2⟩;replace HR:=hid (HR.out.step h1 h2);clear h1 h2 HN0;go_wp2_with fail;refine(put1 g (d+2) _ _ [10] _ rfl HR.out.q.hw (by have:=HB.out;simp only [List.length_append,List.length_cons,List.length_nil] at this |-;omega)).mono ?_
   rintro e w4 ⟨rfl,v4,h1,h2⟩;replace HR:=hid (HR.out.step h1 h2);clear h1 h2;go_wp2_with fail;refine⟨⟨k+1,v4,by omega,by go_num,?_⟩,?_⟩
   ·
    rw [HT.out];simpa only [List.append_assoc] using HR.out
   ·
    simp [intOf];omega
  ·
   have hk2:k=l.length:=by omega
   subst hk2;rw [List.take_length] at HR;have hi:=HR.out.q.hw.ind;have hf:=HR.out.q.hw.free 1;obtain⟨s1,s2⟩:=HR.out.q.hw.setInd (e:=d) (x:=(d:Int)) rfl;replace HR:=hid (HR.out.step s1 s2);clear s1 s2;go_wp2_with fail;refine(begin_any g d _ S _ _ HR.out.q (by omega) (by have:=HL.out;simp only [List.length_append,List.length_cons,List.length_nil] at this |-;omega)).mono ?_
   rintro e w2 ⟨rfl,v2,h1,h2⟩;replace HR:=hid (HR.out.step h1 h2);clear h1 h2;go_wp2_with fail;refine(put1 g d _ _ [125] _ rfl HR.out.q.hw (by have:=HL.out;simp only [List.length_append,List.length_cons,List.length_nil] at this |-;omega)).mono ?_
   rintro e w3 ⟨rfl,v3,h1,h2⟩;replace HR:=hid (HR.out.step h1 h2);clear h1 h2;go_wp2_with fail;refine bodyPost_end (v:=.tuple #[]) (by simp [results,Tryz.results156]) rfl ⟨rfl,_,by simpa [List.append_assoc] using HR.out.q.hw,HR.out.hd⟩
namespace Sy
theorem aP_kids {v:N} (h:aP v=true) (ho:v.op=53\/v.op=49):∀ k∈v.l,aP k=true/\40<=k.op/\k.op<=52:=by
 obtain⟨op,nm,n,t,l⟩:=v;rw [aP_mk,Bool.and_eq_true] at h;simp only [N.op,N.l] at ho |-
 have hs:(l.all fun v=>decide (40<=v.op/\v.op<=52))=true:=by
  have h1:=h.1;unfold shape at h1
  rwa [if_neg (by omega),if_neg (by omega),if_neg (by omega),if_neg (by omega),if_neg (by omega),if_neg (by omega),if_neg (by omega),if_pos (by omega)] at h1
 intro k hk;have h1:=List.all_eq_true.1 hs k hk;have h2:=List.all_eq_true.1 h.2 k hk;simp only [decide_eq_true_eq] at h1;unfold aA at h2;rw [if_neg (by omega)] at h2
 exact⟨h2,h1⟩
theorem P_blk {v:N} (ho:v.op=53) (d:Nat):P v d=blk d (Ps v.l (d+2)):=by
 obtain⟨op,nm,n,t,l⟩:=v;simp only [N.op] at ho;subst ho;rw [P_mk];rfl
end Sy
theorem block_s {m:Nat} (HE:QS m) (g d:Nat) (vb:Option Nat) (S:Nat->Prop) (T:List UInt8) (v:N) (a:Value) (w:World) (hq:Wq w g vb S T d) (hna:NA w S a v) (hz:Sy.N.size v<=m+1) (ha:Sy.aP v=true) (ho:v.op=53\/v.op=49) (hd:d+2+2 * m<=2000000000)
  (hl:T.length+(Sy.blk d (Sy.Ps v.l (d+2))).length<=1099511627776) :
  Calls Tryz.prog 156 #[.pointer (some ⟨g,0,none⟩),a] w (WP w g vb T (Sy.blk d (Sy.Ps v.l (d+2))) d):=by
 have hk:=Sy.aP_kids ha ho;obtain⟨op,nm,n,t,l⟩:=v;obtain⟨A,c,rfl,hok,hkr⟩:=hna.open_;refine block_any HE g d vb S T op n nm t l A c w hq hkr hd (fun k hk2=>⟨?_,hk k hk2⟩) ?_ hl
 ·
  have h1:=Sy.N.size_mem hk2;rw [Sy.N.size_mk] at hz;omega
 ·
  have:=hok.2.2.2.2.2.2;simp only [Sy.N.l] at this;omega
theorem block_l {m:Nat} (HE:QS m) (g d:Nat) (vb:Option Nat) (S:Nat->Prop) (T:List UInt8) (n:Int) (nm t:List UInt8) (l:List N) (a:Value) (w:World) (hq:Wq w g vb S T d) (hna:NA w S a (.mk 49 nm n t l)) (hz:Sy.N.size (.mk 49 nm n t l)<=m+1) (ha:Sy.aP (.mk 49 nm n t l)=true) (hd:d+2+2 * m<=2000000000)
 (hl:T.length+(Sy.blk d (Sy.Ps l (d+2))).length<=1099511627776) :
 Calls Tryz.prog 156 #[.pointer (some ⟨g,0,none⟩),a] w (WP w g vb T (Sy.blk d (Sy.Ps l (d+2))) d):=block_s HE g d vb S T _ a w hq hna hz ha (.inr rfl) hd hl
theorem block_n {m:Nat} (HE:QS m) (g d:Nat) (vb:Option Nat) (S:Nat->Prop) (T:List UInt8) (v:N) (a:Value) (w:World) (hq:Wq w g vb S T d) (hna:NA w S a v) (hz:Sy.N.size v<=m+1) (ha:Sy.aP v=true) (ho:v.op=53) (hd:d+2+2 * m<=2000000000)
  (hl:T.length+(Sy.P v d).length<=1099511627776) :
  Calls Tryz.prog 156 #[.pointer (some ⟨g,0,none⟩),a] w (WP w g vb T (Sy.P v d) d):=by
 rw [Sy.P_blk ho] at hl |-
 exact block_s HE g d vb S T v a w hq hna hz ha (.inl ho) hd hl
end Go.Proofs.YtgeppafcemeidaaGreatDoor
namespace Go.Proofs.YtgeppafcemeidaaGreatDoor
open Go.RowKit
open Sy (N)
namespace Sy
theorem aP_x {l:List N} {i:Nat} (h:l.all aA=true) (ho:opAt l i isx=true):∃ a,l[i]? = some a/\aX a=true:=by
 unfold opAt at ho;split at ho
 ·
  rename_i v hv;have h2:=List.all_eq_true.1 h v (List.mem_of_getElem? hv);unfold isx at ho;simp only [decide_eq_true_eq] at ho;unfold aA at h2;rw [if_pos ho] at h2;exact⟨v,hv,h2⟩
 ·
  cases ho
theorem aP_b {l:List N} {i:Nat} (h:l.all aA=true) (ho:opAt l i isb=true):∃ b,l[i]? = some b/\aP b=true/\b.op=53:=by
 unfold opAt at ho;split at ho
 ·
  rename_i v hv;have h2:=List.all_eq_true.1 h v (List.mem_of_getElem? hv);unfold isb at ho;simp only [decide_eq_true_eq] at ho;unfold aA at h2;rw [if_neg (by omega)] at h2
  exact⟨v,hv,h2,ho⟩
 ·
  cases ho
theorem k0_m {f:N->List UInt8} {l:List N} {a:N} (h:l[0]? = some a):k0 (l.map f)=f a:=by
 cases l with
 | nil=>cases h
 | cons b r=>injection h with h;subst h;rfl
theorem k1_m {f:N->List UInt8} {l:List N} {a:N} (h:l[1]? = some a):k1 (l.map f)=f a:=by
 match l,h with
 | b::c::r,h=>injection h with h;subst h;rfl
theorem k2_m {f:N->List UInt8} {l:List N} {a:N} (h:l[2]? = some a):k2 (l.map f)=f a:=by
 match l,h with
 | b::c::e::r,h=>injection h with h;subst h;rfl
section
variable {n:Int} {nm t:List UInt8} {l:List N} {d:Nat} {a b c:N}
theorem P40 (h:l[0]? = some a):P (.mk 40 nm n t l) d=([108,101,116,32]++(nm++[32,61,32]))++(X a++[59]):=by
 rw [P_mk,show X a=k0 (l.map X) from (k0_m h).symm]
 show [108,101,116,32]++(nm++32::61::32::(k0 (l.map X)++[59]))=_;simp
theorem P41 (h:l[0]? = some a):P (.mk 41 nm n t l) d=(nm++[32,61,32])++(X a++[59]):=by
 rw [P_mk,show X a=k0 (l.map X) from (k0_m h).symm]
 show nm++32::61::32::(k0 (l.map X)++[59])=_;simp
theorem P42n (h:l[0]? = some a) (h1:l[1]? = some b) (hl:l.length < 3):P (.mk 42 nm n t l) d=[105,102,32]++(X a++32::P b d):=by
 rw [P_mk,show X a=k0 (l.map X) from (k0_m h).symm,show P b d=k1 (l.map fun v=>P v d) from (k1_m (f:=fun v=>P v d) h1).symm,Ps_map]
 show [105,102,32]++(k0 (l.map X)++32::(k1 (l.map fun v=>P v d)++if (l.map fun v=>P v d).length < 3 then [] else [32,101,108,115,101,32]++k2 (l.map fun v=>P v d)))=_
 rw [if_pos (by simpa using hl),List.append_nil]
theorem P42y (h:l[0]? = some a) (h1:l[1]? = some b) (h2:l[2]? = some c):P (.mk 42 nm n t l) d=[105,102,32]++(X a++32::P b d)++([32,101,108,115,101,32]++P c d):=by
 rw [P_mk,show X a=k0 (l.map X) from (k0_m h).symm,show P b d=k1 (l.map fun v=>P v d) from (k1_m (f:=fun v=>P v d) h1).symm,show P c d=k2 (l.map fun v=>P v d) from (k2_m (f:=fun v=>P v d) h2).symm,Ps_map]
 show [105,102,32]++(k0 (l.map X)++32::(k1 (l.map fun v=>P v d)++if (l.map fun v=>P v d).length < 3 then [] else [32,101,108,115,101,32]++k2 (l.map fun v=>P v d)))=_
 have:=(List.getElem?_eq_some_iff.1 h2).1;rw [if_neg (by simp;omega)]
 simp
theorem P43 (h:l[0]? = some a) (h1:l[1]? = some b):P (.mk 43 nm n t l) d=[119,104,105,108,101,32]++(X a++32::P b d):=by
 rw [P_mk,show X a=k0 (l.map X) from (k0_m h).symm,show P b d=k1 (l.map fun v=>P v d) from (k1_m (f:=fun v=>P v d) h1).symm,Ps_map];rfl
theorem P44n (h:l=[]):P (.mk 44 nm n t l) d=[114,101,116,117,114,110,59]:=by
 subst h;rw [P_mk];rfl
theorem P44y (h:l[0]? = some a):P (.mk 44 nm n t l) d=[114,101,116,117,114,110,32]++(X a++[59]):=by
 rw [P_mk,show X a=k0 (l.map X) from (k0_m h).symm]
 show (if (l.map X).length=0 then _ else _)=_
 have:=(List.getElem?_eq_some_iff.1 h).1;rw [if_neg (by simp;intro e;subst e;simp at this)]
theorem P45 (h:l[0]? = some a):P (.mk 45 nm n t l) d=[116,104,114,111,119,32]++(X a++[59]):=by
 rw [P_mk,show X a=k0 (l.map X) from (k0_m h).symm];rfl
theorem P46 (h:l[0]? = some a) (h1:l[1]? = some b):P (.mk 46 nm n t l) d=[116,114,121,32]++(P a d++(([32,99,97,116,99,104,32]++(nm++[32]))++P b d)):=by
 rw [P_mk,show P a d=k0 (l.map fun v=>P v d) from (k0_m (f:=fun v=>P v d) h).symm,show P b d=k1 (l.map fun v=>P v d) from (k1_m (f:=fun v=>P v d) h1).symm,Ps_map]
 show [116,114,121,32]++(k0 (l.map fun v=>P v d)++([32,99,97,116,99,104,32]++(nm++32::k1 (l.map fun v=>P v d))))=_
 simp
theorem P47 (h:l[0]? = some a):P (.mk 47 nm n t l) d=[115,97,103,97,32]++P a d:=by
 rw [P_mk,show P a d=k0 (l.map fun v=>P v d) from (k0_m (f:=fun v=>P v d) h).symm,Ps_map];rfl
theorem P48:P (.mk 48 nm n t l) d=([117,110,100,111,32]++(nm++40::(glue (l.map X)++[41])))++[59]:=by
 rw [P_mk];show [117,110,100,111,32]++(nm++40::(glue (l.map X)++[41,59]))=_;simp
theorem P49:P (.mk 49 nm n t l) d=[115,101,108,101,99,116,32]++blk d (Ps l (d+2)):=by rw [P_mk];rfl
theorem P50n (h:l[0]? = some a) (h1:l[1]? = some b) (hn:nm=[]):P (.mk 50 nm n t l) d=[99,97,115,101,32]++(X a++32::P b d):=by
 rw [P_mk,show X a=k0 (l.map X) from (k0_m h).symm,show P b d=k1 (l.map fun v=>P v d) from (k1_m (f:=fun v=>P v d) h1).symm,Ps_map]
 subst hn;rfl
theorem P50y (h:l[0]? = some a) (h1:l[1]? = some b) (hn:nm≠[]):P (.mk 50 nm n t l) d=([99,97,115,101,32]++(nm++[32,61,32]))++(X a++32::P b d):=by
 rw [P_mk,show X a=k0 (l.map X) from (k0_m h).symm,show P b d=k1 (l.map fun v=>P v d) from (k1_m (f:=fun v=>P v d) h1).symm,Ps_map]
 show [99,97,115,101,32]++((if nm=[] then [] else nm++[32,61,32])++(k0 (l.map X)++32::k1 (l.map fun v=>P v d)))=_
 rw [if_neg hn];simp
theorem P51 (h:l[0]? = some a):P (.mk 51 nm n t l) d=[101,108,115,101,32]++P a d:=by
 rw [P_mk,show P a d=k0 (l.map fun v=>P v d) from (k0_m (f:=fun v=>P v d) h).symm,Ps_map];rfl
theorem P52 (h:l[0]? = some a):P (.mk 52 nm n t l) d=[]++(X a++[59]):=by
 rw [P_mk,show X a=k0 (l.map X) from (k0_m h).symm];rfl
end
end Sy
theorem closed_any (kw:List UInt8) (kwb:ByteArray) (hkw:kwb=⟨kw.toArray⟩) (g d:Nat) (vb:Option Nat) (S:Nat->Prop) (T:List UInt8) (op n:Int) (nm t:List UInt8) (l:List N) (A:Option Addr) (c:Nat) (w:World) (hq:Wq w g vb S T d) (hk:KR w S (.slice A l.length c) l) (a:N) (h0:l[0]? = some a) (ha:Sy.aX a=true) (hl:T.length+(kw++(Sy.X a++[59])).length<=1099511627776) :
  Calls Tryz.prog 110 #[.pointer (some ⟨g,0,none⟩),.string kwb,.agg #[.int .i64 op,.string ⟨nm.toArray⟩,.int .i64 n,.string ⟨t.toArray⟩,.slice A l.length c]] w (WP w g vb T (kw++(Sy.X a++[59])) d):=by
 subst hkw;have HA:=hid ha;have H0:=hid h0;have HE:=hid (expr_all (Sy.N.size a));have hlen0:0 < l.length:=(List.getElem?_eq_some_iff.1 h0).1;clear ha;have HW:=hid (Ws.init (op:=op) (n:=n) (nm:=nm) (t:=t) hq hk);obtain⟨b,o,rfl⟩:=HW.out.addr h0;have HL:=hid hl;clear hq hk hl;clear h0;go_enter Tryz.func110,Tryz.ntmps110;go_wp2_with fail;refine(put1 g d vb _ kw _ (b:=w.heap.size+1) (by simp) HW.out.q.hw (by have:=HL.out;(try simp only [List.length_append,List.length_cons,List.length_nil] at this |-);omega)).mono ?_
 rintro e w1 ⟨rfl,v1,h1,h2⟩;replace HW:=hid (HW.out.step h1 h2);clear h1 h2;obtain⟨q0,q1,q2,q3,q4⟩:=HW.out.five;obtain⟨A0,c0,k00,k01,k02,k03,k04,HN0⟩:=HW.out.kid (e:=o) H0.out (by omega)
 go_wp2_with fail
 refine(HE.out a _ _ _ _ _ _ _ (Nat.le_refl _) HA.out HW.out.q HN0.out (by have:=HL.out;(try simp only [List.length_append,List.length_cons,List.length_nil] at this |-);omega)).mono ?_
 clear q0 q1 q2 q3 q4;rintro e w2 ⟨rfl,v2,h1,h2⟩;replace HW:=hid (HW.out.step h1 h2);clear h1 h2;obtain⟨q0,q1,q2,q3,q4⟩:=HW.out.five;clear k00 k01 k02 k03 k04;go_wp2_with fail;refine(put1 g d v2 _ [59] _ rfl HW.out.q.hw (by have:=HL.out;(try simp only [List.length_append,List.length_cons,List.length_nil] at this |-);omega)).mono ?_
 clear q0 q1 q2 q3 q4;rintro e w3 ⟨rfl,v3,h1,h2⟩;replace HW:=hid (HW.out.step h1 h2);clear h1 h2;obtain⟨q0,q1,q2,q3,q4⟩:=HW.out.five;go_wp2_with fail;refine bodyPost_end (v:=.tuple #[]) (by simp [results,Tryz.results110]) rfl ⟨rfl,_,by simpa [List.append_assoc] using HW.out.q.hw,HW.out.hd⟩
theorem guarded_any {m:Nat} (HQS:QS m) (kw:List UInt8) (kwb:ByteArray) (hkw:kwb=⟨kw.toArray⟩) (g d:Nat) (vb:Option Nat) (S:Nat->Prop) (T:List UInt8) (op n:Int) (nm t:List UInt8) (l:List N) (A:Option Addr) (c:Nat) (w:World) (hq:Wq w g vb S T d) (hk:KR w S (.slice A l.length c) l) (a b2:N) (h0:l[0]? = some a) (ha:Sy.aX a=true) (h1:l[1]? = some b2) (hz:Sy.N.size b2<=m+1) (hb:Sy.aP b2=true) (ho:b2.op=53) (hd:d+2+2 * m<=2000000000) (hl:T.length+(kw++(Sy.X a++32::Sy.P b2 d)).length<=1099511627776) :
  Calls Tryz.prog 233 #[.pointer (some ⟨g,0,none⟩),.string kwb,.agg #[.int .i64 op,.string ⟨nm.toArray⟩,.int .i64 n,.string ⟨t.toArray⟩,.slice A l.length c]] w (WP w g vb T (kw++(Sy.X a++32::Sy.P b2 d)) d):=by
 subst hkw;have HA:=hid ha;have H0:=hid h0;have H1:=hid h1;have HB:=hid (And.intro hz (And.intro hb ho));have HQS:=hid HQS;have HE:=hid (expr_all (Sy.N.size a));have hlen1:1 < l.length:=(List.getElem?_eq_some_iff.1 h1).1;have hlen0:0 < l.length:=by omega
 clear ha h1 hz hb ho;have HW:=hid (Ws.init (op:=op) (n:=n) (nm:=nm) (t:=t) hq hk);obtain⟨b,o,rfl⟩:=HW.out.addr h0;have HL:=hid hl;clear hq hk hl;clear h0;go_enter Tryz.func233,Tryz.ntmps233;go_wp2_with fail;refine(put1 g d vb _ kw _ (b:=w.heap.size+1) (by simp) HW.out.q.hw (by have:=HL.out;(try simp only [List.length_append,List.length_cons,List.length_nil] at this |-);omega)).mono ?_
 rintro e w1 ⟨rfl,v1,h1,h2⟩;replace HW:=hid (HW.out.step h1 h2);clear h1 h2;obtain⟨q0,q1,q2,q3,q4⟩:=HW.out.five;obtain⟨A0,c0,k00,k01,k02,k03,k04,HN0⟩:=HW.out.kid (e:=o) H0.out (by omega)
 go_wp2_with fail
 refine(HE.out a _ _ _ _ _ _ _ (Nat.le_refl _) HA.out HW.out.q HN0.out (by have:=HL.out;(try simp only [List.length_append,List.length_cons,List.length_nil] at this |-);omega)).mono ?_
 clear q0 q1 q2 q3 q4;rintro e w2 ⟨rfl,v2,h1,h2⟩;replace HW:=hid (HW.out.step h1 h2);clear h1 h2;obtain⟨q0,q1,q2,q3,q4⟩:=HW.out.five;clear k00 k01 k02 k03 k04;go_wp2_with fail;refine(put1 g d v2 _ [32] _ rfl HW.out.q.hw (by have:=HL.out;(try simp only [List.length_append,List.length_cons,List.length_nil] at this |-);omega)).mono ?_
 clear q0 q1 q2 q3 q4;rintro e w3 ⟨rfl,v3,h1,h2⟩;replace HW:=hid (HW.out.step h1 h2);clear h1 h2;obtain⟨q0,q1,q2,q3,q4⟩:=HW.out.five;obtain⟨A1,c1,k10,k11,k12,k13,k14,HN1⟩:=HW.out.kid (e:=o+5) H1.out (by omega)
 go_wp2_with fail
 refine(block_n HQS.out _ _ _ _ _ b2 _ _ HW.out.q HN1.out HB.out.1 HB.out.2.1 HB.out.2.2 hd (by have:=HL.out;(try simp only [List.length_append,List.length_cons,List.length_nil] at this |-);omega)).mono ?_
 clear q0 q1 q2 q3 q4;rintro e w4 ⟨rfl,v4,h1,h2⟩;replace HW:=hid (HW.out.step h1 h2);clear h1 h2;obtain⟨q0,q1,q2,q3,q4⟩:=HW.out.five;go_wp2_with fail;refine bodyPost_end (v:=.tuple #[]) (by simp [results,Tryz.results233]) rfl ⟨rfl,_,by simpa [List.append_assoc] using HW.out.q.hw,HW.out.hd⟩
theorem result_no (g d:Nat) (vb:Option Nat) (S:Nat->Prop) (T:List UInt8) (op n:Int) (nm t:List UInt8) (l:List N) (A:Option Addr) (c:Nat) (w:World) (hq:Wq w g vb S T d) (hk:KR w S (.slice A l.length c) l) (h0:l.length=0) (hl:T.length+([114,101,116,117,114,110,59]).length<=1099511627776) :
  Calls Tryz.prog 209 #[.pointer (some ⟨g,0,none⟩),.agg #[.int .i64 op,.string ⟨nm.toArray⟩,.int .i64 n,.string ⟨t.toArray⟩,.slice A l.length c]] w (WP w g vb T ([114,101,116,117,114,110,59]) d):=by
 have HW:=hid (Ws.init (op:=op) (n:=n) (nm:=nm) (t:=t) hq hk);have HL:=hid hl;clear hq hk hl;have hlen:((l.length:Int)==0)=true:=by simpa using h0
 have HLN:=hid h0;clear h0;go_enter Tryz.func209,Tryz.ntmps209;go_wp2_with fail;refine(put1 g d vb _ [114,101,116,117,114,110,59] _ (b:=w.heap.size+1) (by simp) HW.out.q.hw (by have:=HL.out;(try simp only [List.length_append,List.length_cons,List.length_nil] at this |-);omega)).mono ?_
 rintro e w1 ⟨rfl,v1,h1,h2⟩;replace HW:=hid (HW.out.step h1 h2);clear h1 h2;obtain⟨q0,q1,q2,q3,q4⟩:=HW.out.five;go_wp2_with fail;refine bodyPost_end (v:=.tuple #[]) (by simp [results,Tryz.results209]) rfl ⟨rfl,_,by simpa [List.append_assoc] using HW.out.q.hw,HW.out.hd⟩
theorem result_yes (g d:Nat) (vb:Option Nat) (S:Nat->Prop) (T:List UInt8) (op n:Int) (nm t:List UInt8) (l:List N) (A:Option Addr) (c:Nat) (w:World) (hq:Wq w g vb S T d) (hk:KR w S (.slice A l.length c) l) (a:N) (h0:l[0]? = some a) (ha:Sy.aX a=true) (hl:T.length+([114,101,116,117,114,110,32]++(Sy.X a++[59])).length<=1099511627776) :
  Calls Tryz.prog 209 #[.pointer (some ⟨g,0,none⟩),.agg #[.int .i64 op,.string ⟨nm.toArray⟩,.int .i64 n,.string ⟨t.toArray⟩,.slice A l.length c]] w (WP w g vb T ([114,101,116,117,114,110,32]++(Sy.X a++[59])) d):=by
 have hlen0:0 < l.length:=(List.getElem?_eq_some_iff.1 h0).1;have hlen:((l.length:Int)==0)=false:=by simp;intro e;subst e;simp at hlen0
 have HA:=hid ha;have H0:=hid h0;clear ha h0;have hne:¬ l.length=0:=by omega
 have hne2:¬ l=[]:=by intro e;subst e;simp at hne
 have HW:=hid (Ws.init (op:=op) (n:=n) (nm:=nm) (t:=t) hq hk);have HL:=hid hl;clear hq hk hl;go_enter Tryz.func209,Tryz.ntmps209;go_wp2_with fail;refine(closed_any _ _ rfl g d vb S _ _ _ _ _ _ _ _ _ HW.out.q HW.out.kr a H0.out HA.out HL.out).mono ?_;rintro e w1 ⟨rfl,v1,h1,h2⟩;replace HW:=hid (HW.out.step h1 h2);clear h1 h2;obtain⟨q0,q1,q2,q3,q4⟩:=HW.out.five;go_wp2_with fail;refine bodyPost_end (v:=.tuple #[]) (by simp [results,Tryz.results209]) rfl ⟨rfl,_,by simpa [List.append_assoc] using HW.out.q.hw,HW.out.hd⟩
theorem branch_no {m:Nat} (HQS:QS m) (g d:Nat) (vb:Option Nat) (S:Nat->Prop) (T:List UInt8) (op n:Int) (nm t:List UInt8) (l:List N) (A:Option Addr) (c:Nat) (w:World) (hq:Wq w g vb S T d) (hk:KR w S (.slice A l.length c) l) (hnm:nm.isEmpty=true) (a b2:N) (h0:l[0]? = some a) (ha:Sy.aX a=true) (h1:l[1]? = some b2) (hz:Sy.N.size b2<=m+1) (hb:Sy.aP b2=true) (ho:b2.op=53) (hd:d+2+2 * m<=2000000000) (hl:T.length+([99,97,115,101,32]++(Sy.X a++32::Sy.P b2 d)).length<=1099511627776) :
  Calls Tryz.prog 234 #[.pointer (some ⟨g,0,none⟩),.agg #[.int .i64 op,.string ⟨nm.toArray⟩,.int .i64 n,.string ⟨t.toArray⟩,.slice A l.length c]] w (WP w g vb T ([99,97,115,101,32]++(Sy.X a++32::Sy.P b2 d)) d):=by
 have HQS:=hid HQS;have H0:=hid h0;have H1:=hid h1;have HA:=hid ha;have HB:=hid (And.intro hz (And.intro hb ho));clear h0 h1 ha hz hb ho;have HW:=hid (Ws.init (op:=op) (n:=n) (nm:=nm) (t:=t) hq hk);have HL:=hid hl;clear hq hk hl;go_enter Tryz.func234,Tryz.ntmps234;go_wp2_with fail;refine(guarded_any HQS.out _ _ rfl g d vb S _ _ _ _ _ _ _ _ _ HW.out.q HW.out.kr a b2 H0.out HA.out H1.out HB.out.1 HB.out.2.1 HB.out.2.2 hd HL.out).mono ?_;rintro e w1 ⟨rfl,v1,h1,h2⟩;replace HW:=hid (HW.out.step h1 h2);clear h1 h2;obtain⟨q0,q1,q2,q3,q4⟩:=HW.out.five;go_wp2_with fail;refine bodyPost_end (v:=.tuple #[]) (by simp [results,Tryz.results234]) rfl ⟨rfl,_,by simpa [List.append_assoc] using HW.out.q.hw,HW.out.hd⟩
theorem branch_yes {m:Nat} (HQS:QS m) (g d:Nat) (vb:Option Nat) (S:Nat->Prop) (T:List UInt8) (op n:Int) (nm t:List UInt8) (l:List N) (A:Option Addr) (c:Nat) (w:World) (hq:Wq w g vb S T d) (hk:KR w S (.slice A l.length c) l) (hnm:nm.isEmpty=false) (a b2:N) (h0:l[0]? = some a) (ha:Sy.aX a=true) (h1:l[1]? = some b2) (hz:Sy.N.size b2<=m+1) (hb:Sy.aP b2=true) (ho:b2.op=53) (hd:d+2+2 * m<=2000000000) (hl:T.length+(([99,97,115,101,32]++(nm++[32,61,32]))++(Sy.X a++32::Sy.P b2 d)).length<=1099511627776) :
  Calls Tryz.prog 234 #[.pointer (some ⟨g,0,none⟩),.agg #[.int .i64 op,.string ⟨nm.toArray⟩,.int .i64 n,.string ⟨t.toArray⟩,.slice A l.length c]] w (WP w g vb T (([99,97,115,101,32]++(nm++[32,61,32]))++(Sy.X a++32::Sy.P b2 d)) d):=by
 have HQS:=hid HQS;have H0:=hid h0;have H1:=hid h1;have HA:=hid ha;have HB:=hid (And.intro hz (And.intro hb ho));clear h0 h1 ha hz hb ho;have hnl:nm.length<=1099511627776:=by simp only [List.length_append] at hl;omega
 have hcat:(⟨#[99,97,115,101,32]⟩:ByteArray)++⟨nm.toArray⟩++⟨#[32,61,32]⟩=⟨([99,97,115,101,32]++(nm++[32,61,32])).toArray⟩:=by rw [cat_list [99,97,115,101,32] _ nm rfl,cat_list _ _ [32,61,32] rfl,List.append_assoc]
 have HC:=hid hcat;clear hcat;have HW:=hid (Ws.init (op:=op) (n:=n) (nm:=nm) (t:=t) hq hk);have HL:=hid hl;clear hq hk hl;go_enter Tryz.func234,Tryz.ntmps234;go_wp2_with fail;refine(guarded_any HQS.out _ _ HC.out g d vb S _ _ _ _ _ _ _ _ _ HW.out.q HW.out.kr a b2 H0.out HA.out H1.out HB.out.1 HB.out.2.1 HB.out.2.2 hd HL.out).mono ?_;rintro e w1 ⟨rfl,v1,h1,h2⟩;replace HW:=hid (HW.out.step h1 h2);clear h1 h2;obtain⟨q0,q1,q2,q3,q4⟩:=HW.out.five;go_wp2_with fail;refine bodyPost_end (v:=.tuple #[]) (by simp [results,Tryz.results234]) rfl ⟨rfl,_,by simpa [List.append_assoc] using HW.out.q.hw,HW.out.hd⟩
end Go.Proofs.YtgeppafcemeidaaGreatDoor
namespace Go.Proofs.YtgeppafcemeidaaGreatDoor
open Go.RowKit
open Sy (N)
namespace Sy
section
variable {n:Int} {nm t:List UInt8} {l:List N}
theorem aP_x1 {op:Int} (h:aP (.mk op nm n t l)=true) (ho:op=40\/op=41\/op=45\/op=52):∃ a,l[0]? = some a/\aX a=true:=by
 rw [aP_mk,Bool.and_eq_true] at h;have h1:=h.1;unfold shape at h1;rw [if_pos ho] at h1;exact aP_x h.2 h1
theorem aP_44 (h:aP (.mk 44 nm n t l)=true):l=[]\/∃ a,l[0]? = some a/\aX a=true:=by
 rw [aP_mk,Bool.and_eq_true] at h;have h1:(decide (l.length=0) || opAt l 0 isx)=true:=h.1
 rw [Bool.or_eq_true,decide_eq_true_eq] at h1;rcases h1 with h1 | h1
 ·
  exact .inl (List.eq_nil_of_length_eq_zero h1)
 ·
  exact .inr (aP_x h.2 h1)
theorem aP_xb {op:Int} (h:aP (.mk op nm n t l)=true) (ho:op=42\/op=43\/op=50):∃ a b,l[0]? = some a/\aX a=true/\l[1]? = some b/\aP b=true/\b.op=53:=by
 rw [aP_mk,Bool.and_eq_true] at h;have h1:opAt l 0 isx=true/\opAt l 1 isb=true:=by
  have h1:=h.1;rcases ho with rfl | rfl | rfl
  ·
   have h2:(opAt l 0 isx&&opAt l 1 isb&&(decide (l.length < 3) || opAt l 2 fun o=>decide (o=42\/o=53)))=true:=h1
   simp only [Bool.and_eq_true] at h2;exact h2.1
  ·
   have h2:(opAt l 0 isx&&opAt l 1 isb)=true:=h1;simpa using h2
  ·
   have h2:(opAt l 0 isx&&opAt l 1 isb)=true:=h1;simpa using h2
 obtain⟨a,q1,q2⟩:=aP_x h.2 h1.1;obtain⟨b,q3,q4⟩:=aP_b h.2 h1.2;exact⟨a,b,q1,q2,q3,q4⟩
theorem aP_42 (h:aP (.mk 42 nm n t l)=true) (hl:¬ l.length < 3):∃ c,l[2]? = some c/\aP c=true/\(c.op=42\/c.op=53):=by
 rw [aP_mk,Bool.and_eq_true] at h;have h2:(opAt l 0 isx&&opAt l 1 isb&&(decide (l.length < 3) || opAt l 2 fun o=>decide (o=42\/o=53)))=true:=h.1
 simp only [Bool.and_eq_true,Bool.or_eq_true,decide_eq_true_eq] at h2;rcases h2.2 with h3 | h3
 ·
  exact absurd h3 hl
 unfold opAt at h3;split at h3
 ·
  rename_i v hv;simp only [decide_eq_true_eq] at h3;have h4:=List.all_eq_true.1 h.2 v (List.mem_of_getElem? hv);unfold aA at h4;rw [if_neg (by omega)] at h4
  exact⟨v,hv,h4,h3⟩
 ·
  cases h3
theorem aP_46 (h:aP (.mk 46 nm n t l)=true):∃ a b,l[0]? = some a/\aP a=true/\a.op=53/\l[1]? = some b/\aP b=true/\b.op=53:=by
 rw [aP_mk,Bool.and_eq_true] at h;have h2:(opAt l 0 isb&&opAt l 1 isb)=true:=h.1;rw [Bool.and_eq_true] at h2;obtain⟨a,q1,q2,q3⟩:=aP_b h.2 h2.1;obtain⟨b,q4,q5⟩:=aP_b h.2 h2.2;exact⟨a,b,q1,q2,q3,q4,q5⟩
theorem aP_b1 {op:Int} (h:aP (.mk op nm n t l)=true) (ho:op=47\/op=51):∃ a,l[0]? = some a/\aP a=true/\a.op=53:=by
 rw [aP_mk,Bool.and_eq_true] at h;have h2:opAt l 0 isb=true:=by rcases ho with rfl | rfl<;>exact h.1
 exact aP_b h.2 h2
theorem aP_48 (h:aP (.mk 48 nm n t l)=true):∀ v∈l,aX v=true:=by
 rw [aP_mk,Bool.and_eq_true] at h;have h2:(l.all fun v=>isx v.op)=true:=h.1
 intro v hv;have h3:=List.all_eq_true.1 h2 v hv;have h4:=List.all_eq_true.1 h.2 v hv;unfold isx at h3;simp only [decide_eq_true_eq] at h3;unfold aA at h4
 rwa [if_pos h3] at h4
theorem size_at {op:Int} {m i:Nat} {k:N} (hz:N.size (.mk op nm n t l)<=m+1) (h:l[i]? = some k):N.size k<=m:=by
 have h1:=N.size_mem (List.mem_of_getElem? h);rw [N.size_mk] at hz;omega
end
end Sy
def QC (m:Nat):Prop:=∀ (v:N) (a:Value) (w:World) (g d:Nat) (vb:Option Nat) (S:Nat->Prop) (T:List UInt8),Sy.N.size v<=m->Sy.aP v=true->v.op=42->d+2 * m<=2000000000->Wq w g vb S T d->NA w S a v->T.length+(Sy.P v d).length<=1099511627776 ->
 Calls Tryz.prog 232 #[.pointer (some ⟨g,0,none⟩),a] w (WP w g vb T (Sy.P v d) d)
theorem cond_step {m:Nat} (HQS:QS m) (HQC:QC m):QC (m+1):=by
 intro v va w g d vb S T hz ha ho hd hq hna hl;obtain⟨op,nm,n,t,l⟩:=v;simp only [Sy.N.op] at ho;subst ho;obtain⟨A,c,rfl,hok,hk⟩:=hna.open_;simp only [Sy.N.op,Sy.N.nm,Sy.N.n,Sy.N.t,Sy.N.l] at hok hk |-
 obtain⟨a,b2,h0,hax,h1,hb,hbo⟩:=Sy.aP_xb ha (.inl rfl);have hbz:=Sy.size_at hz h1;have HQS:=hid HQS;have HQC:=hid HQC;have H0:=hid h0;have H1:=hid h1;have HA:=hid hax;have HB:=hid (And.intro hbz (And.intro hb hbo));have hln:l.length<=4398046511104:=by have:=hok.2.2.2.2.2.2;omega
 have hd2:d+2+2 * m<=2000000000:=by omega
 by_cases h3:l.length < 3
 ·
  rw [Sy.P42n h0 h1 h3] at hl |-
  clear hz ha h0 h1 hax hb hbo hbz hna hok;have HW:=hid (Ws.init (op:=42) (n:=n) (nm:=nm) (t:=t) hq hk);have HL:=hid hl;clear hq hk hl;have hlt:(l.length:Int) < 3:=by omega
  clear h3;go_enter Tryz.func232,Tryz.ntmps232;go_wp2_with fail;refine(guarded_any HQS.out _ _ rfl g d vb S _ _ _ _ _ _ _ _ _ HW.out.q HW.out.kr a b2 H0.out HA.out H1.out (Nat.le_succ_of_le HB.out.1) HB.out.2.1 HB.out.2.2 hd2 HL.out).mono ?_;rintro e w1 ⟨rfl,v1,h1,h2⟩;replace HW:=hid (HW.out.step h1 h2);clear h1 h2;obtain⟨q0,q1,q2,q3,q4⟩:=HW.out.five;go_wp2_with fail;refine bodyPost_end (v:=.tuple #[]) (by simp [results,Tryz.results232]) rfl ⟨rfl,_,HW.out.q.hw,HW.out.hd⟩
 ·
  obtain⟨kc,h2,hc,hco⟩:=Sy.aP_42 ha h3;have hcz:=Sy.size_at hz h2;have H2:=hid h2;have HC:=hid (And.intro hcz hc);rw [Sy.P42y h0 h1 h2] at hl |-
  have hlen2:2 < l.length:=(List.getElem?_eq_some_iff.1 h2).1;have hlt:¬ (l.length:Int) < 3:=by omega
  clear hz ha h1 hax hb hbo hbz hna hok h2 hc hcz h3;obtain⟨b,o,rfl⟩:=(Ws.init (op:=42) (n:=n) (nm:=nm) (t:=t) hq hk).addr h0;clear h0;rcases hco with hco | hco
  ·
   have hcb:(kc.op==42)=true:=by rw [hco];rfl
   have HCO:=hid hco;clear hco;have HW:=hid (Ws.init (op:=42) (n:=n) (nm:=nm) (t:=t) hq hk);have HL:=hid hl;clear hq hk hl;go_enter Tryz.func232,Tryz.ntmps232;go_wp2_with fail;refine(guarded_any HQS.out _ _ rfl g d vb S _ _ _ _ _ _ _ _ _ HW.out.q HW.out.kr a b2 H0.out HA.out H1.out (Nat.le_succ_of_le HB.out.1) HB.out.2.1 HB.out.2.2 hd2 (by have:=HL.out;(try simp only [List.length_append,List.length_cons,List.length_nil] at this |-);omega)).mono ?_
   rintro e w1 ⟨rfl,v1,h1,h2⟩;replace HW:=hid (HW.out.step h1 h2);clear h1 h2;obtain⟨q0,q1,q2,q3,q4⟩:=HW.out.five;go_wp2_with fail;refine(put1 g d v1 _ [32,101,108,115,101,32] _ rfl HW.out.q.hw (by have:=HL.out;(try simp only [List.length_append,List.length_cons,List.length_nil] at this |-);omega)).mono ?_
   clear q0 q1 q2 q3 q4;rintro e w2 ⟨rfl,v2,h1,h2⟩;replace HW:=hid (HW.out.step h1 h2);clear h1 h2;obtain⟨q0,q1,q2,q3,q4⟩:=HW.out.five;obtain⟨A2,c2,k20,k21,k22,k23,k24,HN2⟩:=HW.out.kid (e:=o+10) H2.out (by omega)
   go_wp2_with fail
   refine(HQC.out kc _ _ _ _ _ _ _ HC.out.1 HC.out.2 HCO.out (by omega) HW.out.q HN2.out (by have:=HL.out;(try simp only [List.length_append,List.length_cons,List.length_nil] at this |-);omega)).mono ?_
   clear q0 q1 q2 q3 q4;rintro e w3 ⟨rfl,v3,h1,h2⟩;replace HW:=hid (HW.out.step h1 h2);clear h1 h2;obtain⟨q0,q1,q2,q3,q4⟩:=HW.out.five;go_wp2_with fail;refine bodyPost_end (v:=.tuple #[]) (by simp [results,Tryz.results232]) rfl ⟨rfl,_,by simpa [List.append_assoc] using HW.out.q.hw,HW.out.hd⟩
  ·
   have hcb:(kc.op==42)=false:=by rw [hco];rfl
   have HCO:=hid hco;clear hco;have HW:=hid (Ws.init (op:=42) (n:=n) (nm:=nm) (t:=t) hq hk);have HL:=hid hl;clear hq hk hl;go_enter Tryz.func232,Tryz.ntmps232;go_wp2_with fail;refine(guarded_any HQS.out _ _ rfl g d vb S _ _ _ _ _ _ _ _ _ HW.out.q HW.out.kr a b2 H0.out HA.out H1.out (Nat.le_succ_of_le HB.out.1) HB.out.2.1 HB.out.2.2 hd2 (by have:=HL.out;(try simp only [List.length_append,List.length_cons,List.length_nil] at this |-);omega)).mono ?_
   rintro e w1 ⟨rfl,v1,h1,h2⟩;replace HW:=hid (HW.out.step h1 h2);clear h1 h2;obtain⟨q0,q1,q2,q3,q4⟩:=HW.out.five;go_wp2_with fail;refine(put1 g d v1 _ [32,101,108,115,101,32] _ rfl HW.out.q.hw (by have:=HL.out;(try simp only [List.length_append,List.length_cons,List.length_nil] at this |-);omega)).mono ?_
   clear q0 q1 q2 q3 q4;rintro e w2 ⟨rfl,v2,h1,h2⟩;replace HW:=hid (HW.out.step h1 h2);clear h1 h2;obtain⟨q0,q1,q2,q3,q4⟩:=HW.out.five;obtain⟨A2,c2,k20,k21,k22,k23,k24,HN2⟩:=HW.out.kid (e:=o+10) H2.out (by omega)
   go_wp2_with fail
   refine(block_n HQS.out _ _ _ _ _ kc _ _ HW.out.q HN2.out (Nat.le_succ_of_le HC.out.1) HC.out.2 HCO.out hd2 (by have:=HL.out;(try simp only [List.length_append,List.length_cons,List.length_nil] at this |-);omega)).mono ?_
   clear q0 q1 q2 q3 q4;rintro e w3 ⟨rfl,v3,h1,h2⟩;replace HW:=hid (HW.out.step h1 h2);clear h1 h2;obtain⟨q0,q1,q2,q3,q4⟩:=HW.out.five;go_wp2_with fail;refine bodyPost_end (v:=.tuple #[]) (by simp [results,Tryz.results232]) rfl ⟨rfl,_,by simpa [List.append_assoc] using HW.out.q.hw,HW.out.hd⟩
theorem compound_any {m:Nat} (HQS:QS m) (HQC:QC (m+1)) (op n:Int) (nm t:List UInt8) (l:List N) (va:Value) (w:World) (g d:Nat) (vb:Option Nat) (S:Nat->Prop) (T:List UInt8) (hz:Sy.N.size (.mk op nm n t l)<=m+1) (ha:Sy.aP (.mk op nm n t l)=true)
  (ho:op=42\/op=43\/op=46\/op=47\/op=49\/op=50\/op=51) (hd:d+2 * (m+1)<=2000000000) (hq:Wq w g vb S T d) (hna:NA w S va (.mk op nm n t l)) (hl:T.length+(Sy.P (.mk op nm n t l) d).length<=1099511627776) :
  Calls Tryz.prog 210 #[.pointer (some ⟨g,0,none⟩),va] w (WP w g vb T (Sy.P (.mk op nm n t l) d) d):=by
 obtain⟨A,c,rfl,hok,hk⟩:=hna.open_;simp only [Sy.N.op,Sy.N.nm,Sy.N.n,Sy.N.t,Sy.N.l] at hok hk |-
 have HQS:=hid HQS;have HQC:=hid HQC;have HOK:=hid hok;have HZ:=hid hz;have HAP:=hid ha;have hd2:d+2+2 * m<=2000000000:=by omega
 clear hok hna hz ha;rcases ho with rfl | rfl | rfl | rfl | rfl | rfl | rfl
 ·
  have hop:Hid (42=(42:Int)):=rfl;have HW:=hid (Ws.init (op:=42) (n:=n) (nm:=nm) (t:=t) hq hk);have HL:=hid hl;clear hq hk hl;go_enter Tryz.func210,Tryz.ntmps210;go_wp2_with fail;refine(HQC.out _ _ _ _ _ _ _ _ HZ.out HAP.out rfl hd HW.out.q (HW.out.na HOK.out) HL.out).mono ?_;rintro e w1 ⟨rfl,v1,h1,h2⟩;replace HW:=hid (HW.out.step h1 h2);clear h1 h2;obtain⟨q0,q1,q2,q3,q4⟩:=HW.out.five;go_wp2_with fail;refine bodyPost_end (v:=.tuple #[]) (by simp [results,Tryz.results210]) rfl ⟨rfl,_,by simpa [List.append_assoc] using HW.out.q.hw,HW.out.hd⟩
 ·
  have hop:Hid (43=(43:Int)):=rfl;obtain⟨a,b2,h0,hax,h1,hb,hbo⟩:=Sy.aP_xb HAP.out (by omega)
  have hbz:=Sy.size_at HZ.out h1;rw [Sy.P43 h0 h1] at hl |-
  have HB:=hid (And.intro h0 (And.intro hax (And.intro h1 (And.intro hbz (And.intro hb hbo)))));clear h0 hax h1 hb hbo hbz;have HW:=hid (Ws.init (op:=43) (n:=n) (nm:=nm) (t:=t) hq hk);have HL:=hid hl;clear hq hk hl;go_enter Tryz.func210,Tryz.ntmps210;go_wp2_with fail;refine(guarded_any HQS.out _ _ rfl g d vb S _ _ _ _ _ _ _ _ _ HW.out.q HW.out.kr a b2 HB.out.1 HB.out.2.1 HB.out.2.2.1 (Nat.le_succ_of_le HB.out.2.2.2.1) HB.out.2.2.2.2.1 HB.out.2.2.2.2.2 hd2 HL.out).mono ?_;rintro e w1 ⟨rfl,v1,h1,h2⟩;replace HW:=hid (HW.out.step h1 h2);clear h1 h2;obtain⟨q0,q1,q2,q3,q4⟩:=HW.out.five;go_wp2_with fail;refine bodyPost_end (v:=.tuple #[]) (by simp [results,Tryz.results210]) rfl ⟨rfl,_,by simpa [List.append_assoc] using HW.out.q.hw,HW.out.hd⟩
 ·
  have hop:Hid (46=(46:Int)):=rfl;obtain⟨a,b2,h0,hax,hao,h1,hb,hbo⟩:=Sy.aP_46 HAP.out;have haz:=Sy.size_at HZ.out h0;have hbz:=Sy.size_at HZ.out h1;rw [Sy.P46 h0 h1] at hl |-
  have H0:=hid h0;have H1:=hid h1;have hlen1:1 < l.length:=(List.getElem?_eq_some_iff.1 h1).1;have hlen0:0 < l.length:=by omega
  have HA:=hid (And.intro haz (And.intro hax hao));have HB:=hid (And.intro hbz (And.intro hb hbo));clear hax hao h1 hb hbo hbz haz;have HW:=hid (Ws.init (op:=46) (n:=n) (nm:=nm) (t:=t) hq hk);obtain⟨b,o,rfl⟩:=HW.out.addr h0;have HL:=hid hl;clear hq hk hl;clear h0;go_enter Tryz.func210,Tryz.ntmps210;go_wp2_with fail;refine(put1 g d vb _ [116,114,121,32] _ (b:=w.heap.size+1) (by simp) HW.out.q.hw (by have:=HL.out;(try simp only [List.length_append,List.length_cons,List.length_nil] at this |-);omega)).mono ?_
  rintro e w1 ⟨rfl,v1,h1,h2⟩;replace HW:=hid (HW.out.step h1 h2);clear h1 h2;obtain⟨q0,q1,q2,q3,q4⟩:=HW.out.five;obtain⟨A0,c0,k00,k01,k02,k03,k04,HN0⟩:=HW.out.kid (e:=o) H0.out (by omega)
  go_wp2_with fail
  refine(block_n HQS.out _ _ _ _ _ a _ _ HW.out.q HN0.out (Nat.le_succ_of_le HA.out.1) HA.out.2.1 HA.out.2.2 hd2 (by have:=HL.out;(try simp only [List.length_append,List.length_cons,List.length_nil] at this |-);omega)).mono ?_
  clear q0 q1 q2 q3 q4;rintro e w2 ⟨rfl,v2,h1,h2⟩;replace HW:=hid (HW.out.step h1 h2);clear h1 h2;obtain⟨q0,q1,q2,q3,q4⟩:=HW.out.five;clear k00 k01 k02 k03 k04;go_wp2_with fail;refine(put3 g d v2 _ [32,99,97,116,99,104,32] nm [32] _ rfl HW.out.q.hw (by have:=HL.out;(try simp only [List.length_append,List.length_cons,List.length_nil] at this |-);omega)).mono ?_
  clear q0 q1 q2 q3 q4;rintro e w3 ⟨rfl,v3,h1,h2⟩;replace HW:=hid (HW.out.step h1 h2);clear h1 h2;obtain⟨q0,q1,q2,q3,q4⟩:=HW.out.five;obtain⟨A1,c1,k10,k11,k12,k13,k14,HN1⟩:=HW.out.kid (e:=o+5) H1.out (by omega)
  go_wp2_with fail
  refine(block_n HQS.out _ _ _ _ _ b2 _ _ HW.out.q HN1.out (Nat.le_succ_of_le HB.out.1) HB.out.2.1 HB.out.2.2 hd2 (by have:=HL.out;(try simp only [List.length_append,List.length_cons,List.length_nil] at this |-);omega)).mono ?_
  clear q0 q1 q2 q3 q4;rintro e w4 ⟨rfl,v4,h1,h2⟩;replace HW:=hid (HW.out.step h1 h2);clear h1 h2;obtain⟨q0,q1,q2,q3,q4⟩:=HW.out.five;go_wp2_with fail;refine bodyPost_end (v:=.tuple #[]) (by simp [results,Tryz.results210]) rfl ⟨rfl,_,by simpa [List.append_assoc] using HW.out.q.hw,HW.out.hd⟩
 ·
  have hop:Hid (47=(47:Int)):=rfl;obtain⟨a,h0,hax,hao⟩:=Sy.aP_b1 HAP.out (by omega)
  have haz:=Sy.size_at HZ.out h0;rw [Sy.P47 h0] at hl |-
  have H0:=hid h0;have hlen0:0 < l.length:=(List.getElem?_eq_some_iff.1 h0).1;have HA:=hid (And.intro haz (And.intro hax hao));clear hax hao haz;have HW:=hid (Ws.init (op:=47) (n:=n) (nm:=nm) (t:=t) hq hk);obtain⟨b,o,rfl⟩:=HW.out.addr h0;have HL:=hid hl;clear hq hk hl;clear h0;go_enter Tryz.func210,Tryz.ntmps210;go_wp2_with fail;refine(put1 g d vb _ [115,97,103,97,32] _ (b:=w.heap.size+1) (by simp) HW.out.q.hw (by have:=HL.out;(try simp only [List.length_append,List.length_cons,List.length_nil] at this |-);omega)).mono ?_
  rintro e w1 ⟨rfl,v1,h1,h2⟩;replace HW:=hid (HW.out.step h1 h2);clear h1 h2;obtain⟨q0,q1,q2,q3,q4⟩:=HW.out.five;obtain⟨A0,c0,k00,k01,k02,k03,k04,HN0⟩:=HW.out.kid (e:=o) H0.out (by omega)
  go_wp2_with fail
  refine(block_n HQS.out _ _ _ _ _ a _ _ HW.out.q HN0.out (Nat.le_succ_of_le HA.out.1) HA.out.2.1 HA.out.2.2 hd2 (by have:=HL.out;(try simp only [List.length_append,List.length_cons,List.length_nil] at this |-);omega)).mono ?_
  clear q0 q1 q2 q3 q4;rintro e w2 ⟨rfl,v2,h1,h2⟩;replace HW:=hid (HW.out.step h1 h2);clear h1 h2;obtain⟨q0,q1,q2,q3,q4⟩:=HW.out.five;go_wp2_with fail;refine bodyPost_end (v:=.tuple #[]) (by simp [results,Tryz.results210]) rfl ⟨rfl,_,by simpa [List.append_assoc] using HW.out.q.hw,HW.out.hd⟩
 ·
  have hop:Hid (49=(49:Int)):=rfl;rw [Sy.P49] at hl |-
  have HW:=hid (Ws.init (op:=49) (n:=n) (nm:=nm) (t:=t) hq hk);have HL:=hid hl;clear hq hk hl;go_enter Tryz.func210,Tryz.ntmps210;go_wp2_with fail;refine(put1 g d vb _ [115,101,108,101,99,116,32] _ (b:=w.heap.size+1) (by simp) HW.out.q.hw (by have:=HL.out;(try simp only [List.length_append,List.length_cons,List.length_nil] at this |-);omega)).mono ?_
  rintro e w1 ⟨rfl,v1,h1,h2⟩;replace HW:=hid (HW.out.step h1 h2);clear h1 h2;obtain⟨q0,q1,q2,q3,q4⟩:=HW.out.five;go_wp2_with fail;refine(block_l HQS.out _ _ _ _ _ n nm t l _ _ HW.out.q (HW.out.na HOK.out) HZ.out HAP.out hd2 (by have:=HL.out;(try simp only [List.length_append,List.length_cons,List.length_nil] at this |-);omega)).mono ?_
  clear q0 q1 q2 q3 q4;rintro e w2 ⟨rfl,v2,h1,h2⟩;replace HW:=hid (HW.out.step h1 h2);clear h1 h2;obtain⟨q0,q1,q2,q3,q4⟩:=HW.out.five;go_wp2_with fail;refine bodyPost_end (v:=.tuple #[]) (by simp [results,Tryz.results210]) rfl ⟨rfl,_,by simpa [List.append_assoc] using HW.out.q.hw,HW.out.hd⟩
 ·
  have hop:Hid (50=(50:Int)):=rfl;obtain⟨a,b2,h0,hax,h1,hb,hbo⟩:=Sy.aP_xb HAP.out (by omega)
  have hbz:=Sy.size_at HZ.out h1;have HB:=hid (And.intro h0 (And.intro hax (And.intro h1 (And.intro hbz (And.intro hb hbo)))));by_cases hn:nm=[]
  ·
   rw [Sy.P50n h0 h1 hn] at hl |-
   have HNM:Hid (nm.isEmpty=true):=by show _=_;rw [hn];rfl
   clear h0 hax h1 hb hbo hbz hn;have HW:=hid (Ws.init (op:=50) (n:=n) (nm:=nm) (t:=t) hq hk);have HL:=hid hl;clear hq hk hl;go_enter Tryz.func210,Tryz.ntmps210;go_wp2_with fail;refine(branch_no HQS.out g d vb S _ _ _ _ _ _ _ _ _ HW.out.q HW.out.kr HNM.out a b2 HB.out.1 HB.out.2.1 HB.out.2.2.1 (Nat.le_succ_of_le HB.out.2.2.2.1) HB.out.2.2.2.2.1 HB.out.2.2.2.2.2 hd2 HL.out).mono ?_;rintro e w1 ⟨rfl,v1,h1,h2⟩;replace HW:=hid (HW.out.step h1 h2);clear h1 h2;obtain⟨q0,q1,q2,q3,q4⟩:=HW.out.five;go_wp2_with fail;refine bodyPost_end (v:=.tuple #[]) (by simp [results,Tryz.results210]) rfl ⟨rfl,_,by simpa [List.append_assoc] using HW.out.q.hw,HW.out.hd⟩
  ·
   rw [Sy.P50y h0 h1 hn] at hl |-
   have HNM:Hid (nm.isEmpty=false):=by show _=_;cases nm with
    | nil=>exact absurd rfl hn
    | cons _ _=>rfl
   clear h0 hax h1 hb hbo hbz hn;have HW:=hid (Ws.init (op:=50) (n:=n) (nm:=nm) (t:=t) hq hk);have HL:=hid hl;clear hq hk hl;go_enter Tryz.func210,Tryz.ntmps210;go_wp2_with fail;refine(branch_yes HQS.out g d vb S _ _ _ _ _ _ _ _ _ HW.out.q HW.out.kr HNM.out a b2 HB.out.1 HB.out.2.1 HB.out.2.2.1 (Nat.le_succ_of_le HB.out.2.2.2.1) HB.out.2.2.2.2.1 HB.out.2.2.2.2.2 hd2 HL.out).mono ?_;rintro e w1 ⟨rfl,v1,h1,h2⟩;replace HW:=hid (HW.out.step h1 h2);clear h1 h2;obtain⟨q0,q1,q2,q3,q4⟩:=HW.out.five;go_wp2_with fail;refine bodyPost_end (v:=.tuple #[]) (by simp [results,Tryz.results210]) rfl ⟨rfl,_,by simpa [List.append_assoc] using HW.out.q.hw,HW.out.hd⟩
 ·
  have hop:Hid (51=(51:Int)):=rfl;obtain⟨a,h0,hax,hao⟩:=Sy.aP_b1 HAP.out (by omega)
  have haz:=Sy.size_at HZ.out h0;rw [Sy.P51 h0] at hl |-
  have H0:=hid h0;have hlen0:0 < l.length:=(List.getElem?_eq_some_iff.1 h0).1;have HA:=hid (And.intro haz (And.intro hax hao));clear hax hao haz;have HW:=hid (Ws.init (op:=51) (n:=n) (nm:=nm) (t:=t) hq hk);obtain⟨b,o,rfl⟩:=HW.out.addr h0;have HL:=hid hl;clear hq hk hl;clear h0;go_enter Tryz.func210,Tryz.ntmps210;go_wp2_with fail;refine(put1 g d vb _ [101,108,115,101,32] _ (b:=w.heap.size+1) (by simp) HW.out.q.hw (by have:=HL.out;(try simp only [List.length_append,List.length_cons,List.length_nil] at this |-);omega)).mono ?_
  rintro e w1 ⟨rfl,v1,h1,h2⟩;replace HW:=hid (HW.out.step h1 h2);clear h1 h2;obtain⟨q0,q1,q2,q3,q4⟩:=HW.out.five;obtain⟨A0,c0,k00,k01,k02,k03,k04,HN0⟩:=HW.out.kid (e:=o) H0.out (by omega)
  go_wp2_with fail
  refine(block_n HQS.out _ _ _ _ _ a _ _ HW.out.q HN0.out (Nat.le_succ_of_le HA.out.1) HA.out.2.1 HA.out.2.2 hd2 (by have:=HL.out;(try simp only [List.length_append,List.length_cons,List.length_nil] at this |-);omega)).mono ?_
  clear q0 q1 q2 q3 q4;rintro e w2 ⟨rfl,v2,h1,h2⟩;replace HW:=hid (HW.out.step h1 h2);clear h1 h2;obtain⟨q0,q1,q2,q3,q4⟩:=HW.out.five;go_wp2_with fail;refine bodyPost_end (v:=.tuple #[]) (by simp [results,Tryz.results210]) rfl ⟨rfl,_,by simpa [List.append_assoc] using HW.out.q.hw,HW.out.hd⟩
theorem stmt_step {m:Nat} (HQS:QS m) (HQC:QC (m+1)):QS (m+1):=by
 intro v va w g d vb S T hz ha ho1 ho2 hd hq hna hl;obtain⟨op,nm,n,t,l⟩:=v;simp only [Sy.N.op] at ho1 ho2;obtain⟨A,c,rfl,hok,hk⟩:=hna.open_;simp only [Sy.N.op,Sy.N.nm,Sy.N.n,Sy.N.t,Sy.N.l] at hok hk |-
 have HQS:=hid HQS;have HQC:=hid HQC;have HOK:=hid hok;have HZ:=hid hz;have HAP:=hid ha;have hln:l.length<=4398046511104:=by have:=hok.2.2.2.2.2.2;omega
 clear hok hna hz ha;by_cases z40:op=40
 ·
  subst z40;clear ho1 ho2;obtain⟨a,h0,hax⟩:=Sy.aP_x1 HAP.out (by omega)
  rw [Sy.P40 h0] at hl |-
  have hnl:nm.length<=1099511627776:=by simp only [List.length_append] at hl;omega
  have HC:Hid ((⟨#[108,101,116,32]⟩:ByteArray)++⟨nm.toArray⟩++⟨#[32,61,32]⟩=⟨([108,101,116,32]++(nm++[32,61,32])).toArray⟩):=by show _=_;rw [cat_list [108,101,116,32] _ nm rfl,cat_list _ _ [32,61,32] rfl,List.append_assoc]
  have HA:=hid (And.intro h0 hax);clear h0 hax;have HW:=hid (Ws.init (op:=40) (n:=n) (nm:=nm) (t:=t) hq hk);have HL:=hid hl;clear hq hk hl;go_enter Tryz.func182,Tryz.ntmps182;go_wp2_with fail;refine(closed_any _ _ HC.out g d vb S _ _ _ _ _ _ _ _ _ HW.out.q HW.out.kr a HA.out.1 HA.out.2 HL.out).mono ?_;rintro e w1 ⟨rfl,v1,h1,h2⟩;replace HW:=hid (HW.out.step h1 h2);clear h1 h2;obtain⟨q0,q1,q2,q3,q4⟩:=HW.out.five;go_wp2_with fail;refine bodyPost_end (v:=.tuple #[]) (by simp [results,Tryz.results182]) rfl ⟨rfl,_,by simpa [List.append_assoc] using HW.out.q.hw,HW.out.hd⟩
 by_cases z41:op=41
 ·
  subst z41;clear ho1 ho2 z40;obtain⟨a,h0,hax⟩:=Sy.aP_x1 HAP.out (by omega)
  rw [Sy.P41 h0] at hl |-
  have hnl:nm.length<=1099511627776:=by simp only [List.length_append] at hl;omega
  have HC:Hid ((⟨nm.toArray⟩:ByteArray)++⟨#[32,61,32]⟩=⟨(nm++[32,61,32]).toArray⟩):=by show _=_;rw [cat_list _ _ [32,61,32] rfl]
  have HA:=hid (And.intro h0 hax);clear h0 hax;have HW:=hid (Ws.init (op:=41) (n:=n) (nm:=nm) (t:=t) hq hk);have HL:=hid hl;clear hq hk hl;go_enter Tryz.func182,Tryz.ntmps182;go_wp2_with fail;refine(closed_any _ _ HC.out g d vb S _ _ _ _ _ _ _ _ _ HW.out.q HW.out.kr a HA.out.1 HA.out.2 HL.out).mono ?_;rintro e w1 ⟨rfl,v1,h1,h2⟩;replace HW:=hid (HW.out.step h1 h2);clear h1 h2;obtain⟨q0,q1,q2,q3,q4⟩:=HW.out.five;go_wp2_with fail;refine bodyPost_end (v:=.tuple #[]) (by simp [results,Tryz.results182]) rfl ⟨rfl,_,by simpa [List.append_assoc] using HW.out.q.hw,HW.out.hd⟩
 by_cases z45:op=45
 ·
  subst z45;clear ho1 ho2 z40 z41;obtain⟨a,h0,hax⟩:=Sy.aP_x1 HAP.out (by omega)
  rw [Sy.P45 h0] at hl |-
  have HA:=hid (And.intro h0 hax);clear h0 hax;have HW:=hid (Ws.init (op:=45) (n:=n) (nm:=nm) (t:=t) hq hk);have HL:=hid hl;clear hq hk hl;go_enter Tryz.func182,Tryz.ntmps182;go_wp2_with fail;refine(closed_any _ _ rfl g d vb S _ _ _ _ _ _ _ _ _ HW.out.q HW.out.kr a HA.out.1 HA.out.2 HL.out).mono ?_;rintro e w1 ⟨rfl,v1,h1,h2⟩;replace HW:=hid (HW.out.step h1 h2);clear h1 h2;obtain⟨q0,q1,q2,q3,q4⟩:=HW.out.five;go_wp2_with fail;refine bodyPost_end (v:=.tuple #[]) (by simp [results,Tryz.results182]) rfl ⟨rfl,_,by simpa [List.append_assoc] using HW.out.q.hw,HW.out.hd⟩
 by_cases z52:op=52
 ·
  subst z52;clear ho1 ho2 z40 z41 z45;obtain⟨a,h0,hax⟩:=Sy.aP_x1 HAP.out (by omega)
  rw [Sy.P52 h0] at hl |-
  have HA:=hid (And.intro h0 hax);clear h0 hax;have HW:=hid (Ws.init (op:=52) (n:=n) (nm:=nm) (t:=t) hq hk);have HL:=hid hl;clear hq hk hl;go_enter Tryz.func182,Tryz.ntmps182;go_wp2_with fail;refine(closed_any _ _ rfl g d vb S _ _ _ _ _ _ _ _ _ HW.out.q HW.out.kr a HA.out.1 HA.out.2 HL.out).mono ?_;rintro e w1 ⟨rfl,v1,h1,h2⟩;replace HW:=hid (HW.out.step h1 h2);clear h1 h2;obtain⟨q0,q1,q2,q3,q4⟩:=HW.out.five;go_wp2_with fail;refine bodyPost_end (v:=.tuple #[]) (by simp [results,Tryz.results182]) rfl ⟨rfl,_,by simpa [List.append_assoc] using HW.out.q.hw,HW.out.hd⟩
 by_cases z44:op=44
 ·
  subst z44;clear ho1 ho2 z40 z41 z45 z52;rcases Sy.aP_44 HAP.out with h0 | ⟨a,h0,hax⟩
  ·
   rw [Sy.P44n h0] at hl |-
   have HN0:=hid (congrArg List.length h0);clear h0;have HW:=hid (Ws.init (op:=44) (n:=n) (nm:=nm) (t:=t) hq hk);have HL:=hid hl;clear hq hk hl;go_enter Tryz.func182,Tryz.ntmps182;go_wp2_with fail;refine(result_no g d vb S _ _ _ _ _ _ _ _ _ HW.out.q HW.out.kr HN0.out HL.out).mono ?_;rintro e w1 ⟨rfl,v1,h1,h2⟩;replace HW:=hid (HW.out.step h1 h2);clear h1 h2;obtain⟨q0,q1,q2,q3,q4⟩:=HW.out.five;go_wp2_with fail;refine bodyPost_end (v:=.tuple #[]) (by simp [results,Tryz.results182]) rfl ⟨rfl,_,by simpa [List.append_assoc] using HW.out.q.hw,HW.out.hd⟩
  ·
   rw [Sy.P44y h0] at hl |-
   have HA:=hid (And.intro h0 hax);clear h0 hax;have HW:=hid (Ws.init (op:=44) (n:=n) (nm:=nm) (t:=t) hq hk);have HL:=hid hl;clear hq hk hl;go_enter Tryz.func182,Tryz.ntmps182;go_wp2_with fail;refine(result_yes g d vb S _ _ _ _ _ _ _ _ _ HW.out.q HW.out.kr a HA.out.1 HA.out.2 HL.out).mono ?_;rintro e w1 ⟨rfl,v1,h1,h2⟩;replace HW:=hid (HW.out.step h1 h2);clear h1 h2;obtain⟨q0,q1,q2,q3,q4⟩:=HW.out.five;go_wp2_with fail;refine bodyPost_end (v:=.tuple #[]) (by simp [results,Tryz.results182]) rfl ⟨rfl,_,by simpa [List.append_assoc] using HW.out.q.hw,HW.out.hd⟩
 by_cases z48:op=48
 ·
  subst z48;clear ho1 ho2 z40 z41 z45 z52 z44;have hall:=Sy.aP_48 HAP.out;have HS:=hid (fun v (hv:v∈l)=>And.intro (Nat.le_trans (Sy.N.size_mem hv) (show Sy.N.sizeL l<=m by have:=HZ.out;rw [Sy.N.size_mk] at this;omega)) (hall v hv))
  rw [Sy.P48] at hl |-
  clear hall;have HW:=hid (Ws.init (op:=48) (n:=n) (nm:=nm) (t:=t) hq hk);have HL:=hid hl;clear hq hk hl;go_enter Tryz.func182,Tryz.ntmps182;go_wp2_with fail;refine(call_any (expr_all m) [117,110,100,111,32] g d vb S _ _ _ _ _ _ _ _ _ HW.out.q HW.out.kr HS.out hln (by have:=HL.out;(try simp only [List.length_append,List.length_cons,List.length_nil] at this |-);omega)).mono ?_
  rintro e w1 ⟨rfl,v1,h1,h2⟩;replace HW:=hid (HW.out.step h1 h2);clear h1 h2;obtain⟨q0,q1,q2,q3,q4⟩:=HW.out.five;go_wp2_with fail;refine(put1 g d v1 _ [59] _ rfl HW.out.q.hw (by have:=HL.out;(try simp only [List.length_append,List.length_cons,List.length_nil] at this |-);omega)).mono ?_
  clear q0 q1 q2 q3 q4;rintro e w2 ⟨rfl,v2,h1,h2⟩;replace HW:=hid (HW.out.step h1 h2);clear h1 h2;obtain⟨q0,q1,q2,q3,q4⟩:=HW.out.five;go_wp2_with fail;refine bodyPost_end (v:=.tuple #[]) (by simp [results,Tryz.results182]) rfl ⟨rfl,_,by simpa [List.append_assoc] using HW.out.q.hw,HW.out.hd⟩
 have t40:=ne_b9 z40;have t41:=ne_b9 z41;have t45:=ne_b9 z45;have t52:=ne_b9 z52;have t44:=ne_b9 z44;have t48:=ne_b9 z48;have HO:Hid (op=42\/op=43\/op=46\/op=47\/op=49\/op=50\/op=51):=by show _\/_;omega
 clear ho1 ho2 z40 z41 z45 z52 z44 z48;have HW:=hid (Ws.init (op:=op) (n:=n) (nm:=nm) (t:=t) hq hk);have HL:=hid hl;clear hq hk hl;go_enter Tryz.func182,Tryz.ntmps182;go_wp2_with fail;refine(compound_any HQS.out HQC.out _ _ _ _ _ _ _ g d vb S _ HZ.out HAP.out HO.out hd HW.out.q (HW.out.na HOK.out) HL.out).mono ?_;rintro e w1 ⟨rfl,v1,h1,h2⟩;replace HW:=hid (HW.out.step h1 h2);clear h1 h2;obtain⟨q0,q1,q2,q3,q4⟩:=HW.out.five;go_wp2_with fail;refine bodyPost_end (v:=.tuple #[]) (by simp [results,Tryz.results182]) rfl ⟨rfl,_,by simpa [List.append_assoc] using HW.out.q.hw,HW.out.hd⟩
theorem stmt_all:∀ m,QS m/\QC m
 | 0=>⟨fun v _ _ _ _ _ _ _ hz=>by have:=Sy.N.size_pos v;omega,fun v _ _ _ _ _ _ _ hz=>by have:=Sy.N.size_pos v;omega⟩
 | m+1=>by
  obtain⟨h1,h2⟩:=stmt_all m;have h3:=cond_step h1 h2;exact⟨stmt_step h1 h3,h3⟩
end Go.Proofs.YtgeppafcemeidaaGreatDoor
namespace Go.Proofs.YtgeppafcemeidaaGreatDoor
open Go.RowKit
open Sy (N)
namespace Sy
theorem last_at {l:List N} {b:N} (h:l.getLast? = some b):l[l.length - 1]? = some b:=by
 rw [List.getLast?_eq_getElem?] at h;exact h
theorem D62 {n:Int} {nm t:List UInt8} {l:List N} {b:N} (h:l.getLast? = some b):D (.mk 62 nm n t l)=([102,117,110,99,32]++nm)++(([40]++(glue (l.dropLast.map X)++[41,32]))++P b 0):=by
 have:D (.mk 62 nm n t l)=[102,117,110,99,32]++(nm++40::(glue (l.dropLast.map X)++41::32::(l.getLast?.map fun b=>P b 0).getD [])):=rfl
 rw [this,h];simp
theorem D61 {n:Int} {nm t:List UInt8} {l:List N} {a:N} (h:l[0]? = some a):D (.mk 61 nm n t l)=([118,97,114,32]++(nm++[32,61,32]))++(X a++[59]):=by
 have:D (.mk 61 nm n t l)=[118,97,114,32]++(nm++32::61::32::(k0 (l.map X)++[59])):=rfl;rw [this,k0_m h];simp
def hdl (kw nm t:List UInt8):List UInt8:=[111,110,32]++(kw++(nm++([40]++(t++[41,32]))))
theorem D_one {n:Int} {nm t:List UInt8} {l:List N} {b:N} (h:l.getLast? = some b) (h1:l.length=1) :
  D (.mk 63 nm n t l)=hdl [115,105,103,110,97,108,32] nm t++P b 0/\D (.mk 64 nm n t l)=hdl [113,117,101,114,121,32] nm t++P b 0/\D (.mk 65 nm n t l)=hdl [117,112,100,97,116,101,32] nm t++P b 0:=by
 have e:∀ kw:List UInt8,[111,110,32]++(kw++(nm++40::(t++41::32::((if l.length=1 then [] else [99,104,101,99,107,32]++(k0 (l.map fun b=>P b 0)++[32]))++(l.getLast?.map fun b=>P b 0).getD []))))=hdl kw nm t++P b 0:=fun kw=>by
  rw [if_pos h1,h];unfold hdl;simp
 exact⟨e _,e _,e _⟩
theorem D_two {n:Int} {nm t:List UInt8} {l:List N} {a b:N} (h:l.getLast? = some b) (h0:l[0]? = some a) (h1:¬ l.length=1) :
  D (.mk 65 nm n t l)=hdl [117,112,100,97,116,101,32] nm t++(([99,104,101,99,107,32]++P a 0)++([32]++P b 0)):=by
 have e:∀ kw:List UInt8,[111,110,32]++(kw++(nm++40::(t++41::32::((if l.length=1 then [] else [99,104,101,99,107,32]++(k0 (l.map fun b=>P b 0)++[32]))++(l.getLast?.map fun b=>P b 0).getD []))))=hdl kw nm t++(([99,104,101,99,107,32]++P a 0)++([32]++P b 0)):=fun kw=>by
  rw [if_neg h1,h,k0_m (f:=fun b=>P b 0) h0];unfold hdl;simp
 exact e _
theorem aD_last {v:N} (h:aD v=true) (ho:¬ v.op=61):62<=v.op/\v.op<=65/\(∃ b,v.l.getLast? = some b/\b.op=53/\aP b=true)/\(v.op=62->v.l.dropLast.all aX=true)/\(¬ v.op=62->v.l.length<=2/\(∃ a,v.l[0]? = some a/\aP a=true/\a.op=53)/\(v.op=65\/v.l.length=1)):=by
 unfold aD at h;rw [if_neg ho] at h;simp only [Bool.and_eq_true,decide_eq_true_eq] at h;obtain⟨⟨⟨⟨h1,h2⟩,h3⟩,h4⟩,h5⟩:=h;refine⟨h1,h2,?_,fun e=>by rwa [if_pos e] at h5,fun e=>?_⟩
 ·
  cases hg:v.l.getLast? with
  | none=>rw [hg] at h4;cases h4
  | some b =>
   rw [hg] at h4;simp only [Option.map_some,Option.getD_some,Bool.and_eq_true] at h4;exact⟨b,rfl,by have:=h4.1;unfold isb at this;simpa using this,h4.2⟩
 ·
  rw [if_neg e] at h5;simp only [Bool.and_eq_true,Bool.or_eq_true,decide_eq_true_eq] at h5;exact⟨h5.1.1.1,aP_b h5.1.2 h5.1.1.2,h5.2⟩
end Sy
theorem NsC.split {w:World} {S:Nat->Prop}:∀ {l:List N} {r:List N} {cs:List Value},NsC w S (l++r) cs->∃ c1 c2,cs=c1++c2/\NsC w S l c1/\NsC w S r c2
 | [],r,cs,h=>⟨[],cs,rfl,NsC.nil_,h⟩
 | u::l,r,cs,h=>by
  rw [List.cons_append,NsC_cons] at h;obtain⟨c1,c2,rfl,h1,h2⟩:=h;obtain⟨d1,d2,rfl,h3,h4⟩:=NsC.split h2;exact⟨c1++d1,d2,by simp,by rw [NsC_cons];exact⟨c1,d1,rfl,h1,h3⟩,h4⟩
theorem KR.init_ {w:World} {S:Nat->Prop} {A:Option Addr} {c:Nat} {l:List N} (h:KR w S (.slice A l.length c) l):KR w S (.slice A (l.length - 1) c) l.dropLast:=by
 rcases List.eq_nil_or_concat l with e | ⟨r,b,e⟩
 ·
  subst e;simpa using h
 ·
  rw [List.concat_eq_append] at e;subst e;obtain⟨xs,⟨A',c',he,r1,r2,r3,r4⟩,hn⟩:=h;injection he with e1 e2 e3;subst e1 e3;obtain⟨c1,c2,rfl,h1,h2⟩:=hn.split;have hl:=h1.len;have hl2:=h2.len;rw [List.dropLast_concat];simp only [List.length_append,List.length_cons,List.length_nil] at r1 r3 r4 hl2 |-
  refine⟨c1,⟨A,c,by simp,by omega,r2,by omega,?_⟩,h1⟩
  rcases r4 with r4 | ⟨b',o',he,hS,hc⟩
  ·
   omega
  ·
   exact .inr ⟨b',o',he,hS,fun j u hj=>hc j u (by rw [List.getElem?_append_left (List.getElem?_eq_some_iff.1 hj).1];exact hj)⟩
theorem handler_one (kw:List UInt8) (g:Nat) (vb:Option Nat) (S:Nat->Prop) (T:List UInt8) (op n:Int) (nm t:List UInt8) (l:List N) (A:Option Addr) (c:Nat) (w:World) (hq:Wq w g vb S T 0) (hk:KR w S (.slice A l.length c) l) (hL:l.length=1) (b2:N) (h1:l[l.length - 1]? = some b2) (hb:Sy.aP b2=true) (hbo:b2.op=53) (hz:Sy.N.size (.mk op nm n t l)<=900000000) (hl:T.length+(Sy.hdl kw nm t++Sy.P b2 0).length<=1099511627776) :
  Calls Tryz.prog 112 #[.pointer (some ⟨g,0,none⟩),.string ⟨kw.toArray⟩,.agg #[.int .i64 op,.string ⟨nm.toArray⟩,.int .i64 n,.string ⟨t.toArray⟩,.slice A l.length c]] w (WP w g vb T (Sy.hdl kw nm t++Sy.P b2 0) 0):=by
 unfold Sy.hdl at hl |-
 have hbz:=Nat.le_succ_of_le (Sy.size_at (m:=900000000) (Nat.le_succ_of_le hz) h1);have HQS:=hid (stmt_all 900000000).1;rw [hL] at h1;have H1:=hid h1;have HB:=hid (And.intro hbz (And.intro hb hbo));clear hb hbo hbz hz;have hlast:((l.length:Int) - 1)=0:=by omega
 have hlen0:0 < l.length:=by omega
 have HLL:=hid hL;clear hL;have HW:=hid (Ws.init (op:=op) (n:=n) (nm:=nm) (t:=t) hq hk);obtain⟨b,o,rfl⟩:=HW.out.addr h1;have HL:=hid hl;clear hq hk hl;clear h1;go_enter Tryz.func112,Tryz.ntmps112;go_wp2_with fail;refine(put6 g 0 vb _ [111,110,32] kw nm [40] t [41,32] _ (b:=w.heap.size+1) (by simp) HW.out.q.hw (by have:=HL.out;(try simp only [List.length_append,List.length_cons,List.length_nil] at this |-);omega)).mono ?_
 rintro e w1 ⟨rfl,v1,h1,h2⟩;replace HW:=hid (HW.out.step h1 h2);clear h1 h2;obtain⟨q0,q1,q2,q3,q4⟩:=HW.out.five;obtain⟨A0,c0,k00,k01,k02,k03,k04,HN0⟩:=HW.out.kid (e:=o) H1.out (by omega)
 go_wp2_with fail
 refine(block_n HQS.out _ _ _ _ _ b2 _ _ HW.out.q HN0.out HB.out.1 HB.out.2.1 HB.out.2.2 (by omega) (by have:=HL.out;(try simp only [List.length_append,List.length_cons,List.length_nil] at this |-);omega)).mono ?_
 clear q0 q1 q2 q3 q4;rintro e w2 ⟨rfl,v2,h1,h2⟩;replace HW:=hid (HW.out.step h1 h2);clear h1 h2;obtain⟨q0,q1,q2,q3,q4⟩:=HW.out.five;go_wp2_with fail;refine bodyPost_end (v:=.tuple #[]) (by simp [results,Tryz.results112]) rfl ⟨rfl,_,by simpa [List.append_assoc] using HW.out.q.hw,HW.out.hd⟩
theorem handler_two (kw:List UInt8) (g:Nat) (vb:Option Nat) (S:Nat->Prop) (T:List UInt8) (op n:Int) (nm t:List UInt8) (l:List N) (A:Option Addr) (c:Nat) (w:World) (hq:Wq w g vb S T 0) (hk:KR w S (.slice A l.length c) l) (a:N) (h0:l[0]? = some a) (ha:Sy.aP a=true) (hao:a.op=53) (hL:l.length=2) (b2:N) (h1:l[l.length - 1]? = some b2) (hb:Sy.aP b2=true) (hbo:b2.op=53) (hz:Sy.N.size (.mk op nm n t l)<=900000000) (hl:T.length+(Sy.hdl kw nm t++(([99,104,101,99,107,32]++Sy.P a 0)++([32]++Sy.P b2 0))).length<=1099511627776) :
  Calls Tryz.prog 112 #[.pointer (some ⟨g,0,none⟩),.string ⟨kw.toArray⟩,.agg #[.int .i64 op,.string ⟨nm.toArray⟩,.int .i64 n,.string ⟨t.toArray⟩,.slice A l.length c]] w (WP w g vb T (Sy.hdl kw nm t++(([99,104,101,99,107,32]++Sy.P a 0)++([32]++Sy.P b2 0))) 0):=by
 unfold Sy.hdl at hl |-
 have hbz:=Nat.le_succ_of_le (Sy.size_at (m:=900000000) (Nat.le_succ_of_le hz) h1);have haz:=Nat.le_succ_of_le (Sy.size_at (m:=900000000) (Nat.le_succ_of_le hz) h0);have HQS:=hid (stmt_all 900000000).1;rw [hL] at h1;have H0:=hid h0;have HA:=hid (And.intro haz (And.intro ha hao));have H1:=hid h1;have HB:=hid (And.intro hbz (And.intro hb hbo));clear hb hbo hbz hz ha hao haz;have hlast:((l.length:Int) - 1)=1:=by omega
 have hlen1:1 < l.length:=by omega
 have hlen0:0 < l.length:=by omega
 have HLL:=hid hL;clear hL;have HW:=hid (Ws.init (op:=op) (n:=n) (nm:=nm) (t:=t) hq hk);obtain⟨b,o,rfl⟩:=HW.out.addr h0;have HL:=hid hl;clear hq hk hl;clear h1 h0;go_enter Tryz.func112,Tryz.ntmps112;go_wp2_with fail;refine(put6 g 0 vb _ [111,110,32] kw nm [40] t [41,32] _ (b:=w.heap.size+1) (by simp) HW.out.q.hw (by have:=HL.out;(try simp only [List.length_append,List.length_cons,List.length_nil] at this |-);omega)).mono ?_
 rintro e w1 ⟨rfl,v1,h1,h2⟩;replace HW:=hid (HW.out.step h1 h2);clear h1 h2;obtain⟨q0,q1,q2,q3,q4⟩:=HW.out.five;go_wp2_with fail;refine(put1 g 0 v1 _ [99,104,101,99,107,32] _ rfl HW.out.q.hw (by have:=HL.out;(try simp only [List.length_append,List.length_cons,List.length_nil] at this |-);omega)).mono ?_
 clear q0 q1 q2 q3 q4;rintro e w2 ⟨rfl,v2,h1,h2⟩;replace HW:=hid (HW.out.step h1 h2);clear h1 h2;obtain⟨q0,q1,q2,q3,q4⟩:=HW.out.five;obtain⟨A0,c0,k00,k01,k02,k03,k04,HN0⟩:=HW.out.kid (e:=o) H0.out (by omega)
 go_wp2_with fail
 refine(block_n HQS.out _ _ _ _ _ a _ _ HW.out.q HN0.out HA.out.1 HA.out.2.1 HA.out.2.2 (by omega) (by have:=HL.out;(try simp only [List.length_append,List.length_cons,List.length_nil] at this |-);omega)).mono ?_
 clear q0 q1 q2 q3 q4;rintro e w3 ⟨rfl,v3,h1,h2⟩;replace HW:=hid (HW.out.step h1 h2);clear h1 h2;obtain⟨q0,q1,q2,q3,q4⟩:=HW.out.five;clear k00 k01 k02 k03 k04;go_wp2_with fail;refine(put1 g 0 v3 _ [32] _ rfl HW.out.q.hw (by have:=HL.out;(try simp only [List.length_append,List.length_cons,List.length_nil] at this |-);omega)).mono ?_
 clear q0 q1 q2 q3 q4;rintro e w4 ⟨rfl,v4,h1,h2⟩;replace HW:=hid (HW.out.step h1 h2);clear h1 h2;obtain⟨q0,q1,q2,q3,q4⟩:=HW.out.five;obtain⟨A1,c1,k10,k11,k12,k13,k14,HN1⟩:=HW.out.kid (e:=o+5) H1.out (by omega)
 go_wp2_with fail
 refine(block_n HQS.out _ _ _ _ _ b2 _ _ HW.out.q HN1.out HB.out.1 HB.out.2.1 HB.out.2.2 (by omega) (by have:=HL.out;(try simp only [List.length_append,List.length_cons,List.length_nil] at this |-);omega)).mono ?_
 clear q0 q1 q2 q3 q4;rintro e w5 ⟨rfl,v5,h1,h2⟩;replace HW:=hid (HW.out.step h1 h2);clear h1 h2;obtain⟨q0,q1,q2,q3,q4⟩:=HW.out.five;go_wp2_with fail;refine bodyPost_end (v:=.tuple #[]) (by simp [results,Tryz.results112]) rfl ⟨rfl,_,by simpa [List.append_assoc] using HW.out.q.hw,HW.out.hd⟩
theorem function_any (g:Nat) (vb:Option Nat) (S:Nat->Prop) (T:List UInt8) (op n:Int) (nm t:List UInt8) (l:List N) (A:Option Addr) (c:Nat) (w:World) (hq:Wq w g vb S T 0) (hk:KR w S (.slice A l.length c) l) (hln:l.length<=4398046511104) (hpar:l.dropLast.all Sy.aX=true) (b2:N) (h1:l[l.length - 1]? = some b2) (hb:Sy.aP b2=true) (hbo:b2.op=53) (hz:Sy.N.size (.mk op nm n t l)<=900000000) (hl:T.length+(([102,117,110,99,32]++nm)++(([40]++(Sy.glue (l.dropLast.map Sy.X)++[41,32]))++Sy.P b2 0)).length<=1099511627776) :
  Calls Tryz.prog 111 #[.pointer (some ⟨g,0,none⟩),.agg #[.int .i64 op,.string ⟨nm.toArray⟩,.int .i64 n,.string ⟨t.toArray⟩,.slice A l.length c]] w (WP w g vb T (([102,117,110,99,32]++nm)++(([40]++(Sy.glue (l.dropLast.map Sy.X)++[41,32]))++Sy.P b2 0)) 0):=by
 have hbz:=Nat.le_succ_of_le (Sy.size_at (m:=900000000) (Nat.le_succ_of_le hz) h1);have HQS:=hid (stmt_all 900000000).1;have HPA:Hid (∀ v∈l.dropLast,Sy.N.size v<=900000000/\Sy.aX v=true):=fun v hv=>⟨by have:=Sy.N.size_mem ((List.dropLast_sublist l).subset hv);rw [Sy.N.size_mk] at hz;omega,List.all_eq_true.1 hpar v hv⟩
 have H1:=hid h1;have HB:=hid (And.intro hbz (And.intro hb hbo));have hlen0:0 < l.length:=by have:=(List.getElem?_eq_some_iff.1 h1).1;omega
 obtain⟨m1,hm1⟩:∃ m1:Nat,m1=l.length - 1:=⟨_,rfl⟩;have hlast:((l.length:Int) - 1)=(m1:Int):=by omega
 have hm2:(m1:Int) < (l.length:Int):=by omega
 have hm3:(m1:Int)<=(l.length:Int):=by omega
 have hmc:m1<=c:=by
  obtain⟨xs,⟨A2,c2,he,r1,_⟩,_⟩:=hk;injection he with _ _ e3;omega
 have HM:=hid hm1;clear hb hbo hbz hz hpar hm1;have HW:=hid (Ws.init (op:=op) (n:=n) (nm:=nm) (t:=t) hq hk);obtain⟨b,o,rfl⟩:=HW.out.addr h1;have HL:=hid hl;clear hq hk hl;clear h1;go_enter Tryz.func111,Tryz.ntmps111;go_wp2_with fail;refine(put2 g 0 vb _ [102,117,110,99,32] nm _ (b:=w.heap.size+1) (by simp) HW.out.q.hw (by have:=HL.out;(try simp only [List.length_append,List.length_cons,List.length_nil] at this |-);omega)).mono ?_
 rintro e w1 ⟨rfl,v1,h1,h2⟩;replace HW:=hid (HW.out.step h1 h2);clear h1 h2;obtain⟨q0,q1,q2,q3,q4⟩:=HW.out.five;have CE:=elements_any (expr_all 900000000) g 0 v1 S _ [40] [41,32] l.dropLast (some ⟨b,o,none⟩) c w1 HW.out.q (by have:=HW.out.kr.init_;rwa [<- List.length_dropLast] at this) HPA.out (by rw [List.length_dropLast];omega) (by have:=HL.out;(try simp only [List.length_append,List.length_cons,List.length_nil] at this |-);omega)
 rw [List.length_dropLast,<- HM.out] at CE;have CE:=hid CE;go_wp2_with fail;refine(CE.out).mono ?_;clear q0 q1 q2 q3 q4;rintro e w2 ⟨rfl,v2,h1,h2⟩;replace HW:=hid (HW.out.step h1 h2);clear h1 h2;obtain⟨q0,q1,q2,q3,q4⟩:=HW.out.five;clear CE;obtain⟨A0,c0,k00,k01,k02,k03,k04,HN0⟩:=HW.out.kid (e:=o+m1 * 5) H1.out (by rw [HM.out])
 go_wp2_with fail
 refine(block_n HQS.out _ _ _ _ _ b2 _ _ HW.out.q HN0.out HB.out.1 HB.out.2.1 HB.out.2.2 (by omega) (by have:=HL.out;(try simp only [List.length_append,List.length_cons,List.length_nil] at this |-);omega)).mono ?_
 clear q0 q1 q2 q3 q4;rintro e w3 ⟨rfl,v3,h1,h2⟩;replace HW:=hid (HW.out.step h1 h2);clear h1 h2;obtain⟨q0,q1,q2,q3,q4⟩:=HW.out.five;go_wp2_with fail;refine bodyPost_end (v:=.tuple #[]) (by simp [results,Tryz.results111]) rfl ⟨rfl,_,by simpa [List.append_assoc] using HW.out.q.hw,HW.out.hd⟩
end Go.Proofs.YtgeppafcemeidaaGreatDoor
namespace Go.Proofs.YtgeppafcemeidaaGreatDoor
open Go.RowKit
open Sy (N)
theorem decl_any (v:N) (va:Value) (w:World) (g:Nat) (vb:Option Nat) (S:Nat->Prop) (T:List UInt8) (hz:Sy.N.size v<=900000000) (ha:Sy.aD v=true) (hq:Wq w g vb S T 0) (hna:NA w S va v) (hl:T.length+(Sy.D v).length<=1099511627776) :
  Calls Tryz.prog 62 #[.pointer (some ⟨g,0,none⟩),va] w (WP w g vb T (Sy.D v) 0):=by
 obtain⟨op,nm,n,t,l⟩:=v;obtain⟨A,c,rfl,hok,hk⟩:=hna.open_;simp only [Sy.N.op,Sy.N.nm,Sy.N.n,Sy.N.t,Sy.N.l] at hok hk |-
 have HZ:=hid hz;have HAD:=hid ha;have hln:l.length<=4398046511104:=by have:=hok.2.2.2.2.2.2;omega
 clear hok hna hz ha;by_cases z61:op=61
 ·
  subst z61;obtain⟨a,h0,hax⟩:∃ a,l[0]? = some a/\Sy.aX a=true:=by
   have h:=HAD.out;have h2:(Sy.opAt l 0 Sy.isx&&l.all Sy.aA)=true:=h;rw [Bool.and_eq_true] at h2;exact Sy.aP_x h2.2 h2.1
  rw [Sy.D61 h0] at hl |-
  have hnl:nm.length<=1099511627776:=by simp only [List.length_append] at hl;omega
  have HC:Hid ((⟨#[118,97,114,32]⟩:ByteArray)++⟨nm.toArray⟩++⟨#[32,61,32]⟩=⟨([118,97,114,32]++(nm++[32,61,32])).toArray⟩):=by show _=_;rw [cat_list [118,97,114,32] _ nm rfl,cat_list _ _ [32,61,32] rfl,List.append_assoc]
  have HA:=hid (And.intro h0 hax);clear h0 hax;have HW:=hid (Ws.init (op:=61) (n:=n) (nm:=nm) (t:=t) hq hk);have HL:=hid hl;clear hq hk hl;go_enter Tryz.func62,Tryz.ntmps62;go_wp2_with fail;refine(closed_any _ _ HC.out g 0 vb S _ _ _ _ _ _ _ _ _ HW.out.q HW.out.kr a HA.out.1 HA.out.2 HL.out).mono ?_;rintro e w1 ⟨rfl,v1,h1,h2⟩;replace HW:=hid (HW.out.step h1 h2);clear h1 h2;obtain⟨q0,q1,q2,q3,q4⟩:=HW.out.five;go_wp2_with fail;refine bodyPost_end (v:=.tuple #[]) (by simp [results,Tryz.results62]) rfl ⟨rfl,_,by simpa [List.append_assoc] using HW.out.q.hw,HW.out.hd⟩
 obtain⟨ho1,ho2,⟨b2,hlast,hbo,hb⟩,hd2,hd3⟩:=Sy.aD_last HAD.out z61;simp only [Sy.N.op,Sy.N.l] at ho1 ho2 hlast hd2 hd3;have HB:=hid (And.intro (Sy.last_at hlast) (And.intro hb hbo));by_cases z62:op=62
 ·
  subst z62;clear z61;rw [Sy.D62 hlast] at hl |-
  have HP:=hid (hd2 rfl);clear hlast hb hbo hd2 hd3 ho1 ho2;have HW:=hid (Ws.init (op:=62) (n:=n) (nm:=nm) (t:=t) hq hk);have HL:=hid hl;clear hq hk hl;go_enter Tryz.func62,Tryz.ntmps62;go_wp2_with fail;refine(function_any g vb S _ _ _ _ _ _ _ _ _ HW.out.q HW.out.kr hln HP.out b2 HB.out.1 HB.out.2.1 HB.out.2.2 HZ.out HL.out).mono ?_;rintro e w1 ⟨rfl,v1,h1,h2⟩;replace HW:=hid (HW.out.step h1 h2);clear h1 h2;obtain⟨q0,q1,q2,q3,q4⟩:=HW.out.five;go_wp2_with fail;refine bodyPost_end (v:=.tuple #[]) (by simp [results,Tryz.results62]) rfl ⟨rfl,_,by simpa [List.append_assoc] using HW.out.q.hw,HW.out.hd⟩
 obtain⟨hL2,⟨a,h0,hpa,hoa⟩,hL3⟩:=hd3 z62;have hL1:1<=l.length:=by have:=(List.getElem?_eq_some_iff.1 h0).1;omega
 clear hd2 hd3;by_cases z63:op=63
 ·
  subst z63;clear z61 z62;have h1:l.length=1:=by omega
  rw [(Sy.D_one (n:=n) (nm:=nm) (t:=t) hlast h1).1] at hl |-
  have HL1:=hid h1;clear hlast hb hbo ho1 ho2 hL1 hL2 hL3 h0 hpa hoa h1;have HW:=hid (Ws.init (op:=63) (n:=n) (nm:=nm) (t:=t) hq hk);have HL:=hid hl;clear hq hk hl;go_enter Tryz.func62,Tryz.ntmps62;go_wp2_with fail;refine(handler_one _ g vb S _ _ _ _ _ _ _ _ _ HW.out.q HW.out.kr HL1.out b2 HB.out.1 HB.out.2.1 HB.out.2.2 HZ.out HL.out).mono ?_;rintro e w1 ⟨rfl,v1,h1,h2⟩;replace HW:=hid (HW.out.step h1 h2);clear h1 h2;obtain⟨q0,q1,q2,q3,q4⟩:=HW.out.five;go_wp2_with fail;refine bodyPost_end (v:=.tuple #[]) (by simp [results,Tryz.results62]) rfl ⟨rfl,_,by simpa [List.append_assoc] using HW.out.q.hw,HW.out.hd⟩
 by_cases z64:op=64
 ·
  subst z64;clear z61 z62 z63;have h1:l.length=1:=by omega
  rw [(Sy.D_one (n:=n) (nm:=nm) (t:=t) hlast h1).2.1] at hl |-
  have HL1:=hid h1;clear hlast hb hbo ho1 ho2 hL1 hL2 hL3 h0 hpa hoa h1;have HW:=hid (Ws.init (op:=64) (n:=n) (nm:=nm) (t:=t) hq hk);have HL:=hid hl;clear hq hk hl;go_enter Tryz.func62,Tryz.ntmps62;go_wp2_with fail;refine(handler_one _ g vb S _ _ _ _ _ _ _ _ _ HW.out.q HW.out.kr HL1.out b2 HB.out.1 HB.out.2.1 HB.out.2.2 HZ.out HL.out).mono ?_;rintro e w1 ⟨rfl,v1,h1,h2⟩;replace HW:=hid (HW.out.step h1 h2);clear h1 h2;obtain⟨q0,q1,q2,q3,q4⟩:=HW.out.five;go_wp2_with fail;refine bodyPost_end (v:=.tuple #[]) (by simp [results,Tryz.results62]) rfl ⟨rfl,_,by simpa [List.append_assoc] using HW.out.q.hw,HW.out.hd⟩
 obtain rfl:op=65:=by omega
 clear z61 z62 z63 z64;by_cases h1:l.length=1
 ·
  rw [(Sy.D_one (n:=n) (nm:=nm) (t:=t) hlast h1).2.2] at hl |-
  have HL1:=hid h1;clear hlast hb hbo ho1 ho2 hL1 hL2 hL3 h0 hpa hoa h1;have HW:=hid (Ws.init (op:=65) (n:=n) (nm:=nm) (t:=t) hq hk);have HL:=hid hl;clear hq hk hl;go_enter Tryz.func62,Tryz.ntmps62;go_wp2_with fail;refine(handler_one _ g vb S _ _ _ _ _ _ _ _ _ HW.out.q HW.out.kr HL1.out b2 HB.out.1 HB.out.2.1 HB.out.2.2 HZ.out HL.out).mono ?_;rintro e w1 ⟨rfl,v1,h1,h2⟩;replace HW:=hid (HW.out.step h1 h2);clear h1 h2;obtain⟨q0,q1,q2,q3,q4⟩:=HW.out.five;go_wp2_with fail;refine bodyPost_end (v:=.tuple #[]) (by simp [results,Tryz.results62]) rfl ⟨rfl,_,by simpa [List.append_assoc] using HW.out.q.hw,HW.out.hd⟩
 ·
  rw [Sy.D_two (n:=n) (nm:=nm) (t:=t) hlast h0 h1] at hl |-
  have HL1:Hid (l.length=2):=by show _=_;omega
  have HA:=hid (And.intro h0 (And.intro hpa hoa));clear hlast hb hbo ho1 ho2 hL1 hL2 hL3 h0 hpa hoa h1;have HW:=hid (Ws.init (op:=65) (n:=n) (nm:=nm) (t:=t) hq hk);have HL:=hid hl;clear hq hk hl;go_enter Tryz.func62,Tryz.ntmps62;go_wp2_with fail;refine(handler_two _ g vb S _ _ _ _ _ _ _ _ _ HW.out.q HW.out.kr a HA.out.1 HA.out.2.1 HA.out.2.2 HL1.out b2 HB.out.1 HB.out.2.1 HB.out.2.2 HZ.out HL.out).mono ?_;rintro e w1 ⟨rfl,v1,h1,h2⟩;replace HW:=hid (HW.out.step h1 h2);clear h1 h2;obtain⟨q0,q1,q2,q3,q4⟩:=HW.out.five;go_wp2_with fail;refine bodyPost_end (v:=.tuple #[]) (by simp [results,Tryz.results62]) rfl ⟨rfl,_,by simpa [List.append_assoc] using HW.out.q.hw,HW.out.hd⟩
def dcs (l:List N):List UInt8:=l.flatMap fun d=>Sy.D d++[10]
theorem dcs_take {l:List N} {k:Nat} (h:k < l.length):dcs (l.take (k+1))=dcs (l.take k)++(Sy.D l[k]++[10]):=by
 unfold dcs;rw [List.take_succ_eq_append_getElem h,List.flatMap_append];simp
theorem dcs_le (l:List N) (k:Nat):(dcs (l.take k)).length<=(dcs l).length:=by
 have:dcs l=dcs (l.take k)++dcs (l.drop k):=by unfold dcs;rw [<- List.flatMap_append,List.take_append_drop]
 rw [this,List.length_append];omega
def DclRel (w:World) (g:Nat) (vb:Option Nat) (S:Nat->Prop) (op n:Int) (nm t:List UInt8) (l:List N) (A:Option Addr) (c:Nat) (T:List UInt8) (v:Value) (wr:World):Prop :=
 ∃ (k:Nat) (vr:Option Nat),k<=l.length/\v=.int .i64 (k:Int)/\Ws w g vb S op n nm t l A c (T++dcs (l.take k)) 0 wr vr
theorem program_any (v:N) (va:Value) (w:World) (g:Nat) (vb:Option Nat) (S:Nat->Prop) (T:List UInt8) (hz:Sy.N.size v<=900000000) (ha:v.l.all Sy.aD=true) (hq:Wq w g vb S T 0) (hna:NA w S va v) (hl:T.length+(Sy.G v).length<=1099511627776) :
  Calls Tryz.prog 38 #[.pointer (some ⟨g,0,none⟩),va] w (WP w g vb T (Sy.G v) 0):=by
 obtain⟨op,nm,n,t,l⟩:=v;have hG:Sy.G (.mk op nm n t l)=dcs l:=rfl;rw [hG] at hl |-
 obtain⟨A,c,rfl,hok,hk⟩:=hna.open_;simp only [Sy.N.op,Sy.N.nm,Sy.N.n,Sy.N.t,Sy.N.l] at hok hk ha |-
 have HS:Hid (∀ v∈l,Sy.N.size v<=900000000/\Sy.aD v=true):=fun v hv=>⟨by have:=Sy.N.size_mem hv;rw [Sy.N.size_mk] at hz;omega,List.all_eq_true.1 ha v hv⟩
 have hln:l.length<=4398046511104:=by have:=hok.2.2.2.2.2.2;omega
 clear hok hna hz ha hG;have HW:=hid (Ws.init (op:=op) (n:=n) (nm:=nm) (t:=t) hq hk);have HL:=hid hl;clear hq hk hl;go_enter Tryz.func38,Tryz.ntmps38;go_wp2_with fail;have hat:DclRel w g vb S op n nm t l A c T (.int .i64 0) (w.alloc (.cells #[.int .i64 op,.string ⟨nm.toArray⟩,.int .i64 n,.string ⟨t.toArray⟩,.slice A l.length c] 25)):=⟨0,vb,Nat.zero_le _,rfl,by have:=HW.out;simpa [dcs] using this⟩
 clear HW
 go_loopw [9] (fun v9 wr=>DclRel w g vb S op n nm t l A c T v9 wr) (fun v9 _=>l.length - (intOf v9).toNat)
 case atStart=>exact hat
 case round =>
  clear hat;obtain⟨k,vr,hk,rfl,hws⟩:=hrel;have HR:=hid hws;clear hws;by_cases hlt:k < l.length
  ·
   have h0:l[k]? = some l[k]:=List.getElem?_eq_getElem hlt;obtain⟨b,o,rfl⟩:=HR.out.addr h0;obtain⟨A0,c0,k00,k01,k02,k03,k04,HN0⟩:=HR.out.kid (e:=o+k * 5) h0 rfl;obtain⟨hz,ha⟩:=HS.out l[k] (List.getElem_mem hlt);have HZ:=hid (And.intro hz ha);have HT:Hid (T++dcs (l.take (k+1))=(T++dcs (l.take k))++(Sy.D l[k]++[10])):=by
    show _=_;rw [dcs_take hlt];simp only [List.append_assoc]
   have HB:Hid ((T++dcs (l.take k)).length+(Sy.D l[k]++[10]).length<=1099511627776):=by
    show _<=_;rw [<- List.length_append,<- HT.out];have:=HL.out;have h3:=dcs_le l (k+1);simp only [List.length_append] at this |-
    omega
   clear hz ha h0;generalize T++dcs (l.take k)=T1 at *;generalize l[k]=kd at *;have HX:=hid (bl (w:=wr) (.cells #[.int .i64 kd.op,.string ⟨kd.nm.toArray⟩,.int .i64 kd.n,.string ⟨kd.t.toArray⟩,.slice A0 kd.l.length c0] 25));go_wp2_with fail;refine(decl_any kd _ _ g vr S T1 HZ.out.1 HZ.out.2 (HR.out.q.below HX.out) (HN0.out.below HX.out) (by have:=HB.out;simp only [List.length_append,List.length_cons,List.length_nil] at this |-;omega)).mono ?_
   clear k00 k01 k02 k03 k04;rintro e w3 ⟨rfl,v3,h1,h2⟩;replace HR:=hid (HR.out.step h1 ((Wd.of_below HX.out).trans h2));clear h1 h2 HN0 HX;go_wp2_with fail;refine(put1 g 0 _ _ [10] _ rfl HR.out.q.hw (by have:=HB.out;simp only [List.length_append,List.length_cons,List.length_nil] at this |-;omega)).mono ?_
   rintro e w4 ⟨rfl,v4,h1,h2⟩;replace HR:=hid (HR.out.step h1 h2);clear h1 h2;go_wp2_with fail;refine⟨⟨k+1,v4,by omega,by go_num,?_⟩,?_⟩
   ·
    rw [HT.out];simpa only [List.append_assoc] using HR.out
   ·
    simp [intOf];omega
  ·
   have hk2:k=l.length:=by omega
   subst hk2;rw [List.take_length] at HR;go_wp2_with fail;refine bodyPost_end (v:=.tuple #[]) (by simp [results,Tryz.results38]) rfl ⟨rfl,_,HR.out.q.hw,HR.out.hd⟩
end Go.Proofs.YtgeppafcemeidaaGreatDoor
namespace Go.Proofs.YtgeppafcemeidaaGreatDoor
open Go.RowKit
open Sy (N NT R Ev Run Pg fx hd body opnd inf RunN EvN nd nmd)
open Tk (T)
theorem right_any (v:N) (a:Value) (w:World) (S:Nat->Prop) (hG:Good w) (hv:NA w S a v) :
  Calls Tryz.prog 14 #[a] w fun e w'=>e=.returned (.bool (Sy.right v))/\Below w.heap.size w w':=by
 match v with
 | .mk op nm n t l =>
 obtain⟨A,c,xs,rfl,ho,hl,hr,hvs⟩:=hv.open2;by_cases hop:op=60
 rotate_left
 ·
  have hb:(op==60)=false:=by simpa using hop
  have e:Sy.right (.mk op nm n t l)=false:=by show (op==60&&_&&_)=false;rw [hb];rfl
  rw [e];clear e hop hv ho hr hvs hG;go_enter Tryz.func14,Tryz.ntmps14;go_wp2_with fail;go_ret;exact⟨rfl,bl _⟩
 subst hop;have C1:Hid (∀ W,Below w.heap.size w W->Calls Tryz.prog 32 #[.agg #[.int .i64 60,.string ⟨nm.toArray⟩,.int .i64 n,.string ⟨t.toArray⟩,.slice A l.length c]] W fun e w'=>e=.returned (.bool (Sy.fit (.mk 60 nm n t l) 1 0))/\Below W.heap.size W w'):=fun W hW=>within_any _ _ W S (hv.below hW)
 have C2:Hid (∀ W,Below w.heap.size w W->Calls Tryz.prog 33 #[.agg #[.int .i64 60,.string ⟨nm.toArray⟩,.int .i64 n,.string ⟨t.toArray⟩,.slice A l.length c]] W fun e w'=>e=.returned (.bool (Sy.wf (.mk 60 nm n t l)))/\Below W.heap.size W w'):=fun W hW=>wf_any _ _ (Nat.le_refl _) _ W S (hG.below hW) (hv.below hW)
 have HD:Hid (Sy.right (.mk 60 nm n t l)=((60:Int)==60&&Sy.fit (.mk 60 nm n t l) 1 0&&Sy.wf (.mk 60 nm n t l))):=rfl;clear hv ho hr hvs hG;generalize Sy.right (.mk 60 nm n t l)=dd at HD |-
 generalize Sy.fit (.mk 60 nm n t l) 1 0=b1 at *;generalize Sy.wf (.mk 60 nm n t l)=b2 at *;have HX:=hid (Bx.refl (w:=w) (cs:=#[.int .i64 60,.string ⟨nm.toArray⟩,.int .i64 n,.string ⟨t.toArray⟩,.slice A l.length c]));go_enter Tryz.func14,Tryz.ntmps14;go_wp2_with (first
  | (go_at_call 32;(with_reducible refine(C1.out _ HX.out.below).mono ?_);rintro e w1 ⟨rfl,hb1⟩;have HX:=hid (HX.out.step hb1);have q0:=HX.out.cell 0;have q1:=HX.out.cell 1;have q2:=HX.out.cell 2;have q3:=HX.out.cell 3;have q4:=HX.out.cell 4;simp only [List.getElem?_toArray,List.getElem?_cons_succ,List.getElem?_cons_zero] at q0 q1 q2 q3 q4;clear hb1)
  | (go_at_call 33;(with_reducible refine(C2.out _ HX.out.below).mono ?_);rintro e w2 ⟨rfl,hb2⟩;have HX:=hid (HX.out.step hb2);clear hb2))
 all_goals go_ret
 all_goals exact⟨ret_bool (by rw [HD.out];simp_all;done),HX.out.below⟩
theorem rightX_any (v:N) (a:Value) (w:World) (S:Nat->Prop) (hG:Good w) (hv:NA w S a v) :
  Calls Tryz.prog 17 #[a] w fun e w'=>e=.returned (.bool (Sy.rightX v))/\Below w.heap.size w w':=by
 match v with
 | .mk op nm n t l =>
 obtain⟨A,c,xs,rfl,ho,hl,hr,hvs⟩:=hv.open2;have C1:Hid (∀ W,Below w.heap.size w W->Calls Tryz.prog 32 #[.agg #[.int .i64 op,.string ⟨nm.toArray⟩,.int .i64 n,.string ⟨t.toArray⟩,.slice A l.length c]] W fun e w'=>e=.returned (.bool (Sy.fit (.mk op nm n t l) 1 0))/\Below W.heap.size W w'):=fun W hW=>within_any _ _ W S (hv.below hW)
 have C2:Hid (∀ W,Below w.heap.size w W->Calls Tryz.prog 33 #[.agg #[.int .i64 op,.string ⟨nm.toArray⟩,.int .i64 n,.string ⟨t.toArray⟩,.slice A l.length c]] W fun e w'=>e=.returned (.bool (Sy.wf (.mk op nm n t l)))/\Below W.heap.size W w'):=fun W hW=>wf_any _ _ (Nat.le_refl _) _ W S (hG.below hW) (hv.below hW)
 have C0:Hid (∀ W,Below w.heap.size w W->Calls Tryz.prog 36 #[.agg #[.int .i64 op,.string ⟨nm.toArray⟩,.int .i64 n,.string ⟨t.toArray⟩,.slice A l.length c]] W fun e w'=>e=.returned (.bool (Sy.kExpr (.mk op nm n t l)))/\Below W.heap.size W w'):=fun W hW=>expr_k _ _ W S (hv.below hW)
 have HD:Hid (Sy.rightX (.mk op nm n t l)=(Sy.kExpr (.mk op nm n t l)&&Sy.fit (.mk op nm n t l) 1 0&&Sy.wf (.mk op nm n t l))):=rfl;clear hv ho hr hvs hG;generalize Sy.rightX (.mk op nm n t l)=dd at HD |-
 generalize Sy.fit (.mk op nm n t l) 1 0=b1 at *;generalize Sy.wf (.mk op nm n t l)=b2 at *;generalize Sy.kExpr (.mk op nm n t l)=b0 at *;have HX:=hid (Bx.refl (w:=w) (cs:=#[.int .i64 op,.string ⟨nm.toArray⟩,.int .i64 n,.string ⟨t.toArray⟩,.slice A l.length c]));go_enter Tryz.func17,Tryz.ntmps17;go_wp2_with (first
  | (go_at_call 36;(with_reducible refine(C0.out _ HX.out.below).mono ?_);rintro e w0 ⟨rfl,hb0⟩;have HX:=hid (HX.out.step hb0);have q0:=HX.out.cell 0;have q1:=HX.out.cell 1;have q2:=HX.out.cell 2;have q3:=HX.out.cell 3;have q4:=HX.out.cell 4;simp only [List.getElem?_toArray,List.getElem?_cons_succ,List.getElem?_cons_zero] at q0 q1 q2 q3 q4;clear hb0)
  | (go_at_call 32;(with_reducible refine(C1.out _ HX.out.below).mono ?_);rintro e w1 ⟨rfl,hb1⟩;have HX:=hid (HX.out.step hb1);have q0:=HX.out.cell 0;have q1:=HX.out.cell 1;have q2:=HX.out.cell 2;have q3:=HX.out.cell 3;have q4:=HX.out.cell 4;simp only [List.getElem?_toArray,List.getElem?_cons_succ,List.getElem?_cons_zero] at q0 q1 q2 q3 q4;clear hb1)
  | (go_at_call 33;(with_reducible refine(C2.out _ HX.out.below).mono ?_);rintro e w2 ⟨rfl,hb2⟩;have HX:=hid (HX.out.step hb2);clear hb2))
 all_goals go_ret
 all_goals exact⟨ret_bool (by rw [HD.out];simp_all;done),HX.out.below⟩
end Go.Proofs.YtgeppafcemeidaaGreatDoor
namespace Go.Proofs.YtgeppafcemeidaaGreatDoor
open Go.RowKit
namespace Sy
theorem fields_len {op n:Int} {nm t:List UInt8} (h:fields op nm n t=true):nm.length<=64/\t.length<=4096:=by
 have nml:∀ s,isName s=true->s.length<=64:=fun s hs=>named_len (by rw [isName_named] at hs;exact hs)
 have nil:∀ s:List UInt8,(s==[])=true->s.length<=64:=fun s hs=>by
  have:s=[]:=by simpa using hs
  rw [this];simp
 unfold fields at h;by_cases h1:op=4
 ·
  rw [if_pos h1] at h;simp only [Bool.and_eq_true] at h;have a:=nil _ h.1.1;have b:=nil _ h.2;omega
 rw [if_neg h1] at h;by_cases h2:op=5\/op=9
 ·
  rw [if_pos h2] at h;simp only [Bool.and_eq_true,decide_eq_true_eq] at h;have a:=nil _ h.1.1;have b:=h.2;omega
 rw [if_neg h2] at h;by_cases h3:op∈[6,10,11,29,40,41,46,48,61,62]
 ·
  rw [if_pos h3] at h;simp only [Bool.and_eq_true] at h;have a:=nml _ h.1.1;have b:=nil _ h.2;omega
 rw [if_neg h3] at h;by_cases h4:op=50
 ·
  rw [if_pos h4] at h;simp only [Bool.and_eq_true,Bool.or_eq_true] at h;have b:=nil _ h.2;rcases h.1.1 with g | g
  ·
   have a:=nil _ g;omega
  ·
   have a:=nml _ g;omega
 rw [if_neg h4] at h;by_cases h5:op=63\/op=64\/op=65
 ·
  rw [if_pos h5] at h;simp only [Bool.and_eq_true] at h;have a:=nml _ h.1.1;have b:=nml _ h.2;omega
 rw [if_neg h5] at h;simp only [Bool.and_eq_true] at h;have a:=nil _ h.1.1;have b:=nil _ h.2;omega
theorem wf_ms (v:N) (h:wf v=true):ms v<=4161 * N.size v:=by
 induction v using nInd with
 | h op nm n t l ih =>
  rw [wf_mk,Bool.and_eq_true,Bool.and_eq_true,wfL_all] at h;obtain⟨⟨h1,_⟩,h2⟩:=h;obtain⟨g1,g2⟩:=fields_len h1;rw [ms_mk,N.size_mk];have:∀ k:List N,(∀ v∈k,v∈l)->mss k<=4161 * N.sizeL k:=by
   intro k;induction k with
   | nil=>intro _;rw [mss_nil,N.sizeL_nil];omega
   | cons v k ih2 =>
    intro hk;have h3:=ih v (hk v (by simp)) (List.all_eq_true.1 h2 v (hk v (by simp)))
    have h4:=ih2 fun u hu=>hk u (by simp [hu])
    rw [mss_cons,N.sizeL];omega
  have h5:=this l fun _ h=>h
  omega
theorem right_len {v:N} (h:right v=true) (hk:nk v=true):(G v).length<=1099511627776/\N.size v<=4000:=by
 unfold right fit at h;simp only [Bool.and_eq_true,decide_eq_true_eq] at h;have h1:=wf_ms v h.2;have h2:=G_len v hk 400 (by omega)
 refine⟨?_,by omega⟩
 have:400 * ms v<=400 * (4161 * 4000):=Nat.mul_le_mul_left _ (by omega)
 omega
theorem rightX_len {v:N} (h:rightX v=true) (hk:nk v=true):(X v).length<=1099511627776/\N.size v<=4000:=by
 unfold rightX fit at h;simp only [Bool.and_eq_true,decide_eq_true_eq] at h;have h1:=wf_ms v h.2;have h2:=X_len v hk;refine⟨?_,by omega⟩
 have:32 * ms v<=32 * (4161 * 4000):=Nat.mul_le_mul_left _ (by omega)
 omega
end Sy
open Sy (N)
theorem NC.nk_ {w:World} {S:Nat->Prop} (v:N):∀ cs,NC w S v cs->Sy.nk v=true:=by
 induction v using N.ind with
 | h op nm n t l ih =>
  intro cs h;rw [NC_mk] at h;obtain⟨iv,ics,_,ho,_,h2⟩:=h;have:∀ (k:List N) (xs:List Value),(∀ v∈k,v∈l)->NsC w S k xs->Sy.nks k=true:=by
   intro k;induction k with
   | nil=>intro _ _ _;rw [Sy.nks]
   | cons v k ih2 =>
    intro xs hs hx;rw [NsC_cons] at hx;obtain⟨c1,c2,_,g1,g2⟩:=hx;rw [Sy.nks,ih v (hs v (by simp)) c1 g1,ih2 c2 (fun u hu=>hs u (by simp [hu])) g2];rfl
  rw [Sy.nk,this l ics (fun _ h=>h) h2]
  have h1:=ho.2.2.1;have h3:=ho.2.2.2.1;simp [h1,h3]
theorem NA.nk_ {w:World} {S:Nat->Prop} {a:Value} {v:N} (h:NA w S a v):Sy.nk v=true:=by
 obtain⟨cs,_,hc⟩:=h;exact NC.nk_ v cs hc
end Go.Proofs.YtgeppafcemeidaaGreatDoor
namespace Go.Proofs.YtgeppafcemeidaaGreatDoor
open Go.RowKit
open Sy (N)
def outS (s:List UInt8):List UInt8×Int:=if 16384 < s.length then ([],6) else (s,0)
theorem Wr.text2 {w:World} {g d:Nat} {vb:Option Nat} {T:List UInt8} (h:Wr w g vb T d):∃ A c,w.cell? ⟨g,0,none⟩=some (.slice A T.length c)/\OwnB w 0 (.slice A T.length c) T:=by
 obtain⟨v,h1,h2,h3,_⟩:=h;obtain⟨A,c,rfl⟩:=Own.form h2;rw [List.length_map] at h1 h2;exact⟨A,c,by have:=cellAt h1 0;simpa using this,h2⟩
theorem wq_start {w:World} {S:Nat->Prop} {a:Value} {v:N} {cs:Array Value} {t:TypeId} (hG:Good w) (hna:NA w S a v) :
  Wq ((w.alloc (.cells cs t)).alloc (.cells #[.slice none 0 0,.int .i64 0] 72)) (w.heap.size+1) none (fun b=>b < w.heap.size) [] 0/\NA ((w.alloc (.cells cs t)).alloc (.cells #[.slice none 0 0,.int .i64 0] 72)) (fun b=>b < w.heap.size) a v:=by
 have hb:Below w.heap.size w ((w.alloc (.cells cs t)).alloc (.cells #[.slice none 0 0,.int .i64 0] 72)):=bstep (bl _) (bl _);have hz:((w.alloc (.cells cs t)).alloc (.cells #[.slice none 0 0,.int .i64 0] 72)).heap.size=w.heap.size+2:=by simp
 refine⟨⟨⟨.slice none 0 0,?_,Own.nil _ _ _,rfl,by simp⟩,fun b hb=>⟨by omega,by omega,by simp⟩,fun w' vb' hw=>hG.below ?_⟩,(hna.more (fun b _ h=>h)).below hb⟩
 ·
  have:=heap_alloc_new (w.alloc (.cells cs t)) (.cells #[.slice none 0 0,.int .i64 0] 72)
  rwa [show (w.alloc (.cells cs t)).heap.size=w.heap.size+1 by simp] at this
 ·
  exact hb.trans (hw.below (by omega) (by simp) (by omega))
theorem writtenP (v:N) (va:Value) (w:World) (S:Nat->Prop) (hG:Good w) (hz:Sy.N.size v<=900000000) (ha:v.l.all Sy.aD=true) (hna:NA w S va v) (hl:(Sy.G v).length<=1099511627776) :
  Calls Tryz.prog 37 #[va,.func (.func 38) #[] #[]] w fun e w'=>e=.returned (.tuple #[.string ⟨(outS (Sy.G v)).1.toArray⟩,.int .i64 (outS (Sy.G v)).2])/\Below w.heap.size w w':=by
 obtain⟨op,nm,n,t,l⟩:=v;have HG:=hid hG;have HNA:=hid hna;obtain⟨A,c,rfl,hok,hk⟩:=hna.open_;simp only [Sy.N.op,Sy.N.nm,Sy.N.n,Sy.N.t,Sy.N.l] at HNA |-
 obtain⟨hq,hn⟩:=wq_start (cs:=#[.int .i64 op,.string ⟨nm.toArray⟩,.int .i64 n,.string ⟨t.toArray⟩,.slice A l.length c]) (t:=25) HG.out HNA.out;have C:=hid (program_any (.mk op nm n t l) _ _ _ _ _ [] hz ha hq hn (by simpa using hl))
 have HQ:=hid hq;clear hq hn hna hk hok ha hG hz;go_enter Tryz.func37,Tryz.ntmps37;go_wp2_with fail;refine C.out.mono ?_;rintro e w1 ⟨rfl,v1,h1,h2⟩;rw [List.nil_append] at h1;obtain⟨A1,c1,hc,ho⟩:=h1.text2;have hcv:=(OwnB.bs ho).conv;unfold strOf at hcv;have hb1:Below w.heap.size w w1:=(bstep (bl _) (bl _)).trans (h2.below (by omega) (by simp) (by simp;omega))
 have HB:=hid hb1;have HO:Hid (outS (Sy.G (.mk op nm n t l))=if 16384 < (Sy.G (.mk op nm n t l)).length then ([],6) else (Sy.G (.mk op nm n t l),0)):=rfl
 clear h1 h2 ho hb1 C HQ HNA HG;obtain⟨s,hs⟩:∃ s,s=Sy.G (.mk op nm n t l):=⟨_,rfl⟩;have HSE:=hid hs;rw [<- hs] at hl hc hcv HO;clear hs;by_cases h16:16384 < s.length
 ·
  rw [if_pos h16] at HO;have h16':(16384:Int) < (s.length:Int):=by omega
  clear h16;go_wp2_with fail
  go_ret2
  exact⟨by rw [<- HSE.out,HO.out]<;>rfl,HB.out⟩
 ·
  rw [if_neg h16] at HO;have h16':¬ (16384:Int) < (s.length:Int):=by omega
  clear h16;go_wp2_with fail
  go_ret2
  exact⟨by rw [<- HSE.out,HO.out]<;>rfl,HB.out⟩
theorem writtenX (v:N) (va:Value) (w:World) (S:Nat->Prop) (hG:Good w) (ha:Sy.aX v=true) (hna:NA w S va v) (hl:(Sy.X v).length<=1099511627776) :
  Calls Tryz.prog 37 #[va,.func (.func 41) #[] #[]] w fun e w'=>e=.returned (.tuple #[.string ⟨(outS (Sy.X v)).1.toArray⟩,.int .i64 (outS (Sy.X v)).2])/\Below w.heap.size w w':=by
 obtain⟨op,nm,n,t,l⟩:=v;have HG:=hid hG;have HNA:=hid hna;obtain⟨A,c,rfl,hok,hk⟩:=hna.open_;simp only [Sy.N.op,Sy.N.nm,Sy.N.n,Sy.N.t,Sy.N.l] at HNA |-
 obtain⟨hq,hn⟩:=wq_start (cs:=#[.int .i64 op,.string ⟨nm.toArray⟩,.int .i64 n,.string ⟨t.toArray⟩,.slice A l.length c]) (t:=25) HG.out HNA.out;have C:=hid (expr_all (Sy.N.size (.mk op nm n t l)) (.mk op nm n t l) _ _ _ _ _ _ [] (Nat.le_refl _) ha hq hn (by simpa using hl))
 have HQ:=hid hq;clear hq hn hna hk hok ha hG;go_enter Tryz.func37,Tryz.ntmps37;go_wp2_with fail;refine C.out.mono ?_;rintro e w1 ⟨rfl,v1,h1,h2⟩;rw [List.nil_append] at h1;obtain⟨A1,c1,hc,ho⟩:=h1.text2;have hcv:=(OwnB.bs ho).conv;unfold strOf at hcv;have hb1:Below w.heap.size w w1:=(bstep (bl _) (bl _)).trans (h2.below (by omega) (by simp) (by simp;omega))
 have HB:=hid hb1;have HO:Hid (outS (Sy.X (.mk op nm n t l))=if 16384 < (Sy.X (.mk op nm n t l)).length then ([],6) else (Sy.X (.mk op nm n t l),0)):=rfl
 clear h1 h2 ho hb1 C HQ HNA HG;obtain⟨s,hs⟩:∃ s,s=Sy.X (.mk op nm n t l):=⟨_,rfl⟩;have HSE:=hid hs;rw [<- hs] at hl hc hcv HO;clear hs;by_cases h16:16384 < s.length
 ·
  rw [if_pos h16] at HO;have h16':(16384:Int) < (s.length:Int):=by omega
  clear h16;go_wp2_with fail
  go_ret2
  exact⟨by rw [<- HSE.out,HO.out]<;>rfl,HB.out⟩
 ·
  rw [if_neg h16] at HO;have h16':¬ (16384:Int) < (s.length:Int):=by omega
  clear h16;go_wp2_with fail
  go_ret2
  exact⟨by rw [<- HSE.out,HO.out]<;>rfl,HB.out⟩
def pr (v:N):List UInt8×Int:=if Sy.right v=true then outS (Sy.G v) else ([],2)
def prX (v:N):List UInt8×Int:=if Sy.rightX v=true then outS (Sy.X v) else ([],2)
theorem right_aD {v:N} (h:Sy.right v=true):v.l.all Sy.aD=true:=by
 rw [<- Sy.rRight_eq] at h;unfold Sy.rRight at h;simp only [Bool.and_eq_true] at h;exact Sy.all_sub (fun u _ hu=>Sy.rD_aD hu) h.2
theorem rightX_aX {v:N} (h:Sy.rightX v=true):Sy.aX v=true:=by
 rw [<- Sy.rRightX_eq] at h;unfold Sy.rRightX at h;simp only [Bool.and_eq_true] at h;exact(Sy.rX_aX v).1 h.2
theorem print_any (v:N) (va:Value) (w:World) (S:Nat->Prop) (hG:Good w) (hna:NA w S va v) :
  Calls Tryz.prog 20 #[va] w fun e w'=>e=.returned (.tuple #[.string ⟨(pr v).1.toArray⟩,.int .i64 (pr v).2])/\Below w.heap.size w w':=by
 have HNA:=hid hna;have HG:=hid hG;have CR:=hid (fun W (hW:Below w.heap.size w W)=>right_any v va W S (hG.below hW) (hna.below hW))
 obtain⟨A,c,rfl,hok,hk⟩:=hna.open_;cases hr:Sy.right v
 ·
  have HP:Hid (pr v=([],2)):=by show _=_;unfold pr;rw [hr];rfl
  rw [HP.out];rw [hr] at CR;clear hr HP hok hk hna hG;go_enter Tryz.func20,Tryz.ntmps20;go_wp2_with fail;refine(CR.out _ (bl _)).mono ?_;rintro e w1 ⟨rfl,hb⟩;have HB:=hid (bstep (bl _) hb);clear hb;go_wp2_with fail
  go_ret2
  exact⟨rfl,HB.out⟩
 ·
  have HP:Hid (pr v=outS (Sy.G v)):=by show _=_;unfold pr;rw [hr];rfl
  rw [HP.out];rw [hr] at CR;have HA:=hid (right_aD hr);obtain⟨hl,hz⟩:=Sy.right_len hr hna.nk_;have HZ:Hid (Sy.N.size v<=900000000):=by show _<=_;omega
  have HL:=hid hl;have HX:=hid (Bx.refl (w:=w) (cs:=#[.int .i64 v.op,.string ⟨v.nm.toArray⟩,.int .i64 v.n,.string ⟨v.t.toArray⟩,.slice A v.l.length c]));clear hr HP hok hk hna hG hl hz;go_enter Tryz.func20,Tryz.ntmps20;go_wp2_with fail;refine(CR.out _ (bl _)).mono ?_;rintro e w1 ⟨rfl,hb⟩;replace HX:=hid (HX.out.step hb);have q0:=HX.out.cell 0;have q1:=HX.out.cell 1;have q2:=HX.out.cell 2;have q3:=HX.out.cell 3;have q4:=HX.out.cell 4;simp only [List.getElem?_toArray,List.getElem?_cons_succ,List.getElem?_cons_zero] at q0 q1 q2 q3 q4;clear hb;go_wp2_with fail;refine(writtenP v _ w1 S (HG.out.below HX.out.below) HZ.out HA.out (HNA.out.below HX.out.below) HL.out).mono ?_;rintro e w2 ⟨rfl,hb⟩;have HB:=hid (HX.out.step hb);clear hb;go_wp2_with fail
  go_ret2
  exact⟨rfl,HB.out.below⟩
theorem printX_any (v:N) (va:Value) (w:World) (S:Nat->Prop) (hG:Good w) (hna:NA w S va v) :
  Calls Tryz.prog 22 #[va] w fun e w'=>e=.returned (.tuple #[.string ⟨(prX v).1.toArray⟩,.int .i64 (prX v).2])/\Below w.heap.size w w':=by
 have HNA:=hid hna;have HG:=hid hG;have CR:=hid (fun W (hW:Below w.heap.size w W)=>rightX_any v va W S (hG.below hW) (hna.below hW))
 obtain⟨A,c,rfl,hok,hk⟩:=hna.open_;cases hr:Sy.rightX v
 ·
  have HP:Hid (prX v=([],2)):=by show _=_;unfold prX;rw [hr];rfl
  rw [HP.out];rw [hr] at CR;clear hr HP hok hk hna hG;go_enter Tryz.func22,Tryz.ntmps22;go_wp2_with fail;refine(CR.out _ (bl _)).mono ?_;rintro e w1 ⟨rfl,hb⟩;have HB:=hid (bstep (bl _) hb);clear hb;go_wp2_with fail
  go_ret2
  exact⟨rfl,HB.out⟩
 ·
  have HP:Hid (prX v=outS (Sy.X v)):=by show _=_;unfold prX;rw [hr];rfl
  rw [HP.out];rw [hr] at CR;have HA:=hid (rightX_aX hr);obtain⟨hl,hz⟩:=Sy.rightX_len hr hna.nk_;have HZ:Hid (Sy.N.size v<=900000000):=by show _<=_;omega
  have HL:=hid hl;have HX:=hid (Bx.refl (w:=w) (cs:=#[.int .i64 v.op,.string ⟨v.nm.toArray⟩,.int .i64 v.n,.string ⟨v.t.toArray⟩,.slice A v.l.length c]));clear hr HP hok hk hna hG hl hz;go_enter Tryz.func22,Tryz.ntmps22;go_wp2_with fail;refine(CR.out _ (bl _)).mono ?_;rintro e w1 ⟨rfl,hb⟩;replace HX:=hid (HX.out.step hb);have q0:=HX.out.cell 0;have q1:=HX.out.cell 1;have q2:=HX.out.cell 2;have q3:=HX.out.cell 3;have q4:=HX.out.cell 4;simp only [List.getElem?_toArray,List.getElem?_cons_succ,List.getElem?_cons_zero] at q0 q1 q2 q3 q4;clear hb;go_wp2_with fail;refine(writtenX v _ w1 S (HG.out.below HX.out.below) HA.out (HNA.out.below HX.out.below) HL.out).mono ?_;rintro e w2 ⟨rfl,hb⟩;have HB:=hid (HX.out.step hb);clear hb;go_wp2_with fail
  go_ret2
  exact⟨rfl,HB.out.below⟩
end Go.Proofs.YtgeppafcemeidaaGreatDoor
