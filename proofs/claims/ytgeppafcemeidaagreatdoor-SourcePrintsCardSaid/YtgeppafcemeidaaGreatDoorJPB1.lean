/-
  Texts of a proof, joined: functions of the program and of its reference by contract, and what holds of trees, tokens and bytes.
-/
import Derived.Test.YtgeppafcemeidaaGreatDoorJPN1
import Derived.Test.YtgeppafcemeidaaGreatDoorJPP1
import Derived.Test.YtgeppafcemeidaaGreatDoorJPT1
set_option linter.unusedVariables false
set_option linter.unusedSimpArgs false
set_option maxRecDepth 100000
set_option maxHeartbeats 8000000
namespace Go.Proofs.YtgeppafcemeidaaGreatDoor
open Go.RowKit
open Sy (N NT R Ev Run Pg fx hd body opnd inf RunN EvN nd nmd)
open Tk (T)
def KC (F : Nat) (p : N -> Bool) : Prop:=∀ (v : N) (a : Value) (w : World) (S : Nat -> Prop),NA w S a v -> Calls Tryz.prog F #[a] w fun e w' => e = .returned (.bool (p v)) /\ Below w.heap.size w w'
namespace Sy
def kBlock (v : N) : Bool:=v.op == 53
def kCase (v : N) : Bool:=v.op == 50
def kPair (v : N) : Bool:=v.op == 9
def kParam (v : N) : Bool:=v.op == 6
def kExpr (v : N) : Bool:=decide (1 <= v.op) && decide (v.op <= 29) && (v.op != 9)
def kStmt (v : N) : Bool:=decide (40 <= v.op) && decide (v.op <= 52) && (v.op != 50) && (v.op != 51)
def kDecl (v : N) : Bool:=decide (61 <= v.op) && decide (v.op <= 65)
def kAlt (v : N) : Bool:=kBlock v || (v.op == 42)
def oneInt : List N -> Bool
 | [k] => k.op == 4
 | _ => false
def kConst (v : N) : Bool:=(v.op == 1 || v.op == 2 || v.op == 3 || v.op == 4 || v.op == 5) || (v.op == 14 && oneInt v.l)
end Sy
theorem block_k : KC 105 Sy.kBlock:=by
 intro v a w S h
 match v with
 | .mk op nm n t l =>
 obtain ⟨A,c,xs,rfl,ho,hl,hr,hvs⟩:=h.open2
 clear h ho hr hvs
 show Calls _ _ _ _ (fun e w' => e = .returned (.bool (op == _)) /\ _)
 go_enter Tryz.func105,Tryz.ntmps105
 go_wp2_with fail
 go_ret
 exact ⟨rfl,bl _⟩
theorem case_k : KC 179 Sy.kCase:=by
 intro v a w S h
 match v with
 | .mk op nm n t l =>
 obtain ⟨A,c,xs,rfl,ho,hl,hr,hvs⟩:=h.open2
 clear h ho hr hvs
 show Calls _ _ _ _ (fun e w' => e = .returned (.bool (op == _)) /\ _)
 go_enter Tryz.func179,Tryz.ntmps179
 go_wp2_with fail
 go_ret
 exact ⟨rfl,bl _⟩
theorem pairk_k : KC 150 Sy.kPair:=by
 intro v a w S h
 match v with
 | .mk op nm n t l =>
 obtain ⟨A,c,xs,rfl,ho,hl,hr,hvs⟩:=h.open2
 clear h ho hr hvs
 show Calls _ _ _ _ (fun e w' => e = .returned (.bool (op == _)) /\ _)
 go_enter Tryz.func150,Tryz.ntmps150
 go_wp2_with fail
 go_ret
 exact ⟨rfl,bl _⟩
theorem parm_k : KC 104 Sy.kParam:=by
 intro v a w S h
 match v with
 | .mk op nm n t l =>
 obtain ⟨A,c,xs,rfl,ho,hl,hr,hvs⟩:=h.open2
 clear h ho hr hvs
 show Calls _ _ _ _ (fun e w' => e = .returned (.bool (op == _)) /\ _)
 go_enter Tryz.func104,Tryz.ntmps104
 go_wp2_with fail
 go_ret
 exact ⟨rfl,bl _⟩
theorem expr_k : KC 36 Sy.kExpr:=by
 intro v a w S h
 match v with
 | .mk op nm n t l =>
 obtain ⟨A,c,xs,rfl,ho,hl,hr,hvs⟩:=h.open2
 clear h ho hr hvs
 by_cases h0 : 1 <= op
 rotate_left
 ·
  have e : Sy.kExpr (.mk op nm n t l) = false:=by show (decide (1 <= op) && decide (op <= 29) && (op != 9)) = false;rw [show decide (1 <= op) = false from decide_eq_false h0];rfl
  rw [e]
  clear e
  go_enter Tryz.func36,Tryz.ntmps36
  go_wp2_with fail
  go_ret
  exact ⟨rfl,bl _⟩
 by_cases h1 : op <= 29
 rotate_left
 ·
  have e : Sy.kExpr (.mk op nm n t l) = false:=by show (decide (1 <= op) && decide (op <= 29) && (op != 9)) = false;rw [show decide (1 <= op) = true from decide_eq_true h0,show decide (op <= 29) = false from decide_eq_false h1];rfl
  rw [e]
  clear e
  go_enter Tryz.func36,Tryz.ntmps36
  go_wp2_with fail
  go_ret
  exact ⟨rfl,bl _⟩
 by_cases h2 : op ≠ 9
 rotate_left
 ·
  have e : Sy.kExpr (.mk op nm n t l) = false:=by show (decide (1 <= op) && decide (op <= 29) && (op != 9)) = false;rw [show decide (1 <= op) = true from decide_eq_true h0,show decide (op <= 29) = true from decide_eq_true h1,show (op != 9) = false from by simpa using h2];rfl
  rw [e]
  clear e
  have c2 : (op != 9) = false:=by simpa using h2
  clear h2
  go_enter Tryz.func36,Tryz.ntmps36
  go_wp2_with fail
  go_ret
  exact ⟨rfl,bl _⟩
 have c2 : (op != 9) = true:=by simpa using h2
 have e : Sy.kExpr (.mk op nm n t l) = true:=by show (decide (1 <= op) && decide (op <= 29) && (op != 9)) = true;rw [show decide (1 <= op) = true from decide_eq_true h0,show decide (op <= 29) = true from decide_eq_true h1,show (op != 9) = true from by simpa using h2];rfl
 rw [e]
 clear e
 go_enter Tryz.func36,Tryz.ntmps36
 go_wp2_with fail
 go_ret
 exact ⟨rfl,bl _⟩
theorem stmt_k : KC 153 Sy.kStmt:=by
 intro v a w S h
 match v with
 | .mk op nm n t l =>
 obtain ⟨A,c,xs,rfl,ho,hl,hr,hvs⟩:=h.open2
 clear h ho hr hvs
 by_cases h0 : 40 <= op
 rotate_left
 ·
  have e : Sy.kStmt (.mk op nm n t l) = false:=by show (decide (40 <= op) && decide (op <= 52) && (op != 50) && (op != 51)) = false;rw [show decide (40 <= op) = false from decide_eq_false h0];rfl
  rw [e]
  clear e
  go_enter Tryz.func153,Tryz.ntmps153
  go_wp2_with fail
  go_ret
  exact ⟨rfl,bl _⟩
 by_cases h1 : op <= 52
 rotate_left
 ·
  have e : Sy.kStmt (.mk op nm n t l) = false:=by show (decide (40 <= op) && decide (op <= 52) && (op != 50) && (op != 51)) = false;rw [show decide (40 <= op) = true from decide_eq_true h0,show decide (op <= 52) = false from decide_eq_false h1];rfl
  rw [e]
  clear e
  go_enter Tryz.func153,Tryz.ntmps153
  go_wp2_with fail
  go_ret
  exact ⟨rfl,bl _⟩
 by_cases h2 : op ≠ 50
 rotate_left
 ·
  have e : Sy.kStmt (.mk op nm n t l) = false:=by show (decide (40 <= op) && decide (op <= 52) && (op != 50) && (op != 51)) = false;rw [show decide (40 <= op) = true from decide_eq_true h0,show decide (op <= 52) = true from decide_eq_true h1,show (op != 50) = false from by simpa using h2];rfl
  rw [e]
  clear e
  have c2 : (op != 50) = false:=by simpa using h2
  clear h2
  go_enter Tryz.func153,Tryz.ntmps153
  go_wp2_with fail
  go_ret
  exact ⟨rfl,bl _⟩
 have c2 : (op != 50) = true:=by simpa using h2
 by_cases h3 : op ≠ 51
 rotate_left
 ·
  have e : Sy.kStmt (.mk op nm n t l) = false:=by show (decide (40 <= op) && decide (op <= 52) && (op != 50) && (op != 51)) = false;rw [show decide (40 <= op) = true from decide_eq_true h0,show decide (op <= 52) = true from decide_eq_true h1,show (op != 50) = true from by simpa using h2,show (op != 51) = false from by simpa using h3];rfl
  rw [e]
  clear e
  have c3 : (op != 51) = false:=by simpa using h3
  clear h3
  go_enter Tryz.func153,Tryz.ntmps153
  go_wp2_with fail
  go_ret
  exact ⟨rfl,bl _⟩
 have c3 : (op != 51) = true:=by simpa using h3
 have e : Sy.kStmt (.mk op nm n t l) = true:=by show (decide (40 <= op) && decide (op <= 52) && (op != 50) && (op != 51)) = true;rw [show decide (40 <= op) = true from decide_eq_true h0,show decide (op <= 52) = true from decide_eq_true h1,show (op != 50) = true from by simpa using h2,show (op != 51) = true from by simpa using h3];rfl
 rw [e]
 clear e
 go_enter Tryz.func153,Tryz.ntmps153
 go_wp2_with fail
 go_ret
 exact ⟨rfl,bl _⟩
theorem decl_k : KC 101 Sy.kDecl:=by
 intro v a w S h
 match v with
 | .mk op nm n t l =>
 obtain ⟨A,c,xs,rfl,ho,hl,hr,hvs⟩:=h.open2
 clear h ho hr hvs
 by_cases h0 : 61 <= op
 rotate_left
 ·
  have e : Sy.kDecl (.mk op nm n t l) = false:=by show (decide (61 <= op) && decide (op <= 65)) = false;rw [show decide (61 <= op) = false from decide_eq_false h0];rfl
  rw [e]
  clear e
  go_enter Tryz.func101,Tryz.ntmps101
  go_wp2_with fail
  go_ret
  exact ⟨rfl,bl _⟩
 by_cases h1 : op <= 65
 rotate_left
 ·
  have e : Sy.kDecl (.mk op nm n t l) = false:=by show (decide (61 <= op) && decide (op <= 65)) = false;rw [show decide (61 <= op) = true from decide_eq_true h0,show decide (op <= 65) = false from decide_eq_false h1];rfl
  rw [e]
  clear e
  go_enter Tryz.func101,Tryz.ntmps101
  go_wp2_with fail
  go_ret
  exact ⟨rfl,bl _⟩
 have e : Sy.kDecl (.mk op nm n t l) = true:=by show (decide (61 <= op) && decide (op <= 65)) = true;rw [show decide (61 <= op) = true from decide_eq_true h0,show decide (op <= 65) = true from decide_eq_true h1];rfl
 rw [e]
 clear e
 go_enter Tryz.func101,Tryz.ntmps101
 go_wp2_with fail
 go_ret
 exact ⟨rfl,bl _⟩
end Go.Proofs.YtgeppafcemeidaaGreatDoor
namespace Go.Proofs.YtgeppafcemeidaaGreatDoor
open Go.RowKit
open Sy (N NT R Ev Run Pg fx hd body opnd inf RunN EvN nd nmd)
open Tk (T)
def KA (F : Nat) (v : N) (p : Bool) : Prop:=∀ (a : Value) (w : World) (S : Nat -> Prop),Good w -> NA w S a v -> Calls Tryz.prog F #[a] w fun e w' => e = .returned (.bool p) /\ Below w.heap.size w w'
theorem KC.ka {F : Nat} {p : N -> Bool} (h : KC F p) (v : N) : KA F v (p v):=fun a w S _ hn => h v a w S hn
theorem alt_k : KC 151 Sy.kAlt:=by
 intro v a w S h
 have HK:=hid h
 match v with
 | .mk op nm n t l =>
 have hb : Sy.kAlt (.mk op nm n t l) = (Sy.kBlock (.mk op nm n t l) || (op == 42)):=rfl
 obtain ⟨A,c,xs,rfl,ho,hl,hr,hvs⟩:=h.open2
 clear h ho hr hvs
 have HB : Hid (∀ (a : Value) (w : World) (S : Nat -> Prop),NA w S a (.mk op nm n t l) -> Calls Tryz.prog 105 #[a] w fun e w' => e = .returned (.bool (Sy.kBlock (.mk op nm n t l))) /\ Below w.heap.size w w'):=fun a w S h => block_k _ a w S h
 rw [hb]
 clear hb
 generalize Sy.kBlock (.mk op nm n t l) = bb at *
 go_enter Tryz.func151,Tryz.ntmps151
 go_wp2_with (go_at_call 105;refine (HB.out _ _ _ (HK.out.below (bl _))).mono ?_;rintro e w1 ⟨rfl,hb1⟩;have q0:=((Bx.refl (w:=w) (cs:=#[.int .i64 op,.string ⟨nm.toArray⟩,.int .i64 n,.string ⟨t.toArray⟩,.slice A l.length c])).step hb1).cell 0;simp only [List.getElem?_toArray,List.getElem?_cons_succ,List.getElem?_cons_zero] at q0;have HB1:=hid (bstep (bl _) hb1);clear hb1)
 ·
  subst_vars
  go_ret
  exact ⟨rfl,HB1.out⟩
 ·
  subst_vars
  go_ret
  exact ⟨by simp_all,HB1.out⟩
theorem const_k : KC 103 Sy.kConst:=by
 intro v a w S h
 match v with
 | .mk op nm n t l =>
 obtain ⟨A,c,xs,rfl,ho,hl,hr,hvs⟩:=h.open2
 by_cases h14 : op = 14 /\ l.length = 1
 ·
  obtain ⟨rfl,h1⟩:=h14
  match l,h1 with
  | [k],_ =>
  obtain ⟨b,o,cc,A1,c1,he,q0,q1,q2,q3,q4,hva⟩:=kids_at hr hvs 0 (by simp)
  injection he with he1 he2 he3
  subst he1
  have e : Sy.kConst (.mk 14 nm n t [k]) = (k.op == 4):=rfl
  rw [e]
  replace q0 : w.cell? ⟨b,o,none⟩ = some (.int .i64 k.op):=by simpa using q0
  generalize k.op = x at *
  clear h ho hr hvs he2 he3 e q1 q2 q3 q4 hva
  rw [show [k].length = 1 from rfl]
  have HB : Hid (Below w.heap.size w (w.alloc (.cells #[.int .i64 14,.string ⟨nm.toArray⟩,.int .i64 n,.string ⟨t.toArray⟩,.slice (some ⟨b,o,none⟩) 1 c] 25))):=bl _
  have q:=keepB (S:=fun _ => True) HB.out _ _ trivial q0
  go_enter Tryz.func103,Tryz.ntmps103
  go_wp2_with fail
  go_ret
  exact ⟨ret_bool (by simp),HB.out⟩
 ·
  clear h ho hr hvs
  by_cases h1 : op = 1
  ·
   subst h1
   go_enter Tryz.func103,Tryz.ntmps103
   go_wp2_with fail
   go_ret
   exact ⟨rfl,bl _⟩
  by_cases h2 : op = 2
  ·
   subst h2
   go_enter Tryz.func103,Tryz.ntmps103
   go_wp2_with fail
   go_ret
   exact ⟨rfl,bl _⟩
  by_cases h3 : op = 3
  ·
   subst h3
   go_enter Tryz.func103,Tryz.ntmps103
   go_wp2_with fail
   go_ret
   exact ⟨rfl,bl _⟩
  by_cases h4 : op = 4
  ·
   subst h4
   go_enter Tryz.func103,Tryz.ntmps103
   go_wp2_with fail
   go_ret
   exact ⟨rfl,bl _⟩
  by_cases h5 : op = 5
  ·
   subst h5
   go_enter Tryz.func103,Tryz.ntmps103
   go_wp2_with fail
   go_ret
   exact ⟨rfl,bl _⟩
  have e1 : (op == 1) = false:=by simpa using h1
  have e2 : (op == 2) = false:=by simpa using h2
  have e3 : (op == 3) = false:=by simpa using h3
  have e4 : (op == 4) = false:=by simpa using h4
  have e5 : (op == 5) = false:=by simpa using h5
  have e : Sy.kConst (.mk op nm n t l) = false:=by
   show ((op == 1 || op == 2 || op == 3 || op == 4 || op == 5) || (op == 14 && Sy.oneInt l)) = false
   rw [e1,e2,e3,e4,e5]
   by_cases h : op = 14
   ·
    have : l.length ≠ 1:=fun h1 => h14 ⟨h,h1⟩
    match l,this with
    | [],_ => simp [Sy.oneInt]
    | [_],h => simp at h
    | _ :: _ :: _,_ => simp [Sy.oneInt]
   ·
    rw [show (op == 14) = false by simpa using h];rfl
  rw [e]
  clear e h1 h2 h3 h4 h5
  by_cases h : op = 14
  ·
   subst h
   have hl1 : ((l.length : Int) == 1) = false:=by
    have : l.length ≠ 1:=fun h1 => h14 ⟨rfl,h1⟩
    simp;omega
   clear h14
   generalize l.length = k at *
   go_enter Tryz.func103,Tryz.ntmps103
   go_wp2_with fail
   go_ret
   exact ⟨rfl,bl _⟩
  ·
   have e6 : (op == 14) = false:=by simpa using h
   clear h h14
   go_enter Tryz.func103,Tryz.ntmps103
   go_wp2_with fail
   go_ret
   exact ⟨rfl,bl _⟩
def Sl (w : World) (S : Nat -> Prop) (iv : Value) (l : List N) : Prop:=l.length * 72 <= 140737488351232 /\ ∃ ics,RdN w S 5 iv l.length ics /\ NsC w S l ics
theorem Sl.form {w : World} {S : Nat -> Prop} {iv : Value} {l : List N} (h : Sl w S iv l) : ∃ A c,iv = .slice A l.length c:=by
 obtain ⟨_,_,⟨A,c,rfl,_⟩,_⟩:=h;exact ⟨A,c,rfl⟩
theorem Sl.below {w w' : World} {S : Nat -> Prop} {iv : Value} {l : List N} (h : Sl w S iv l) (hb : Below w.heap.size w w') : Sl w' S iv l:=by
 obtain ⟨h0,ics,h1,h2⟩:=h
 exact ⟨h0,ics,h1.below hb (by omega),h2.below hb⟩
theorem Sl.kids {w : World} {S : Nat -> Prop} {iv : Value} {l : List N} (h : Sl w S iv l) (i : Nat) (hi : i < l.length) :
  ∃ (b o c : Nat) (A : Option Addr) (c1 : Nat),iv = .slice (some ⟨b,o,none⟩) l.length c /\
   w.cell? ⟨b,o + i * 5,none⟩ = some (.int .i64 l[i].op) /\ w.cell? ⟨b,o + i * 5 + 1,none⟩ = some (.string ⟨l[i].nm.toArray⟩) /\ w.cell? ⟨b,o + i * 5 + 2,none⟩ = some (.int .i64 l[i].n) /\ w.cell? ⟨b,o + i * 5 + 3,none⟩ = some (.string ⟨l[i].t.toArray⟩) /\ w.cell? ⟨b,o + i * 5 + 4,none⟩ = some (.slice A l[i].l.length c1) /\
   NA w S (.agg #[.int .i64 l[i].op,.string ⟨l[i].nm.toArray⟩,.int .i64 l[i].n,.string ⟨l[i].t.toArray⟩,.slice A l[i].l.length c1]) l[i]:=by
 obtain ⟨_,ics,h1,h2⟩:=h
 exact kids_at h1 h2 i hi
theorem all_take {p : N -> Bool} {l : List N} {i : Nat} (h : (l.take i).all p = true) (hi : i < l.length) (hp : p l[i] = true) : (l.take (i + 1)).all p = true:=by
 rw [take_succ_l l i hi,List.all_append,h];simp [hp]
theorem all_no {p : N -> Bool} {l : List N} {i : Nat} (hi : i < l.length) (hp : p l[i] = false) : l.all p = false:=by
 rw [List.all_eq_false];exact ⟨l[i],List.getElem_mem hi,by simp [hp]⟩
theorem all_any (K : Nat) (p : N -> Bool) (hen : ∀ (args : Array Value) (W : World),(callFunc K args).run Tryz.prog W = .ok (.enter K args) W) (l : List N) (iv : Value) (w : World) (S : Nat -> Prop) (hg : Good w) (hs : Sl w S iv l) (hK : ∀ u ∈ l,KA K u (p u)) :
  Calls Tryz.prog 59 #[iv,.func (.func K) #[] #[]] w fun e w' => e = .returned (.bool (l.all p)) /\ Below w.heap.size w w':=by
 obtain ⟨A,c,rfl⟩:=hs.form
 have hl:=hs.1
 have HS:=hid hs
 have HG:=hid hg
 have HK:=hid hK
 clear hs hg hK
 go_enter Tryz.func59,Tryz.ntmps59
 go_wp2_with fail
 go_loopw [9] (fun v9 wr => ∃ i : Nat,i <= l.length /\ v9 = .int .i64 (i : Int) /\ (l.take i).all p = true /\ Below w.heap.size w wr) (fun v9 _ => l.length - (intOf v9).toNat)
 case atStart => exact ⟨0,Nat.zero_le _,rfl,rfl,Below.refl _ _⟩
 case round =>
  obtain ⟨i,hi,rfl,hall,hb⟩:=hrel
  have HB:=hid hb
  have HA:=hid hall
  clear hb hall
  by_cases hlt : i < l.length
  ·
   obtain ⟨b,o,cc,A1,c1,he,q0,q1,q2,q3,q4,hva⟩:=(HS.out.below HB.out).kids i hlt
   injection he with he1 he2 he3
   subst he1
   clear he2 he3
   have C:=HK.out l[i] (List.getElem_mem hlt)
   have HC : Hid (∀ W,Below wr.heap.size wr W -> Calls Tryz.prog K #[.agg #[.int .i64 l[i].op,.string ⟨l[i].nm.toArray⟩,.int .i64 l[i].n,.string ⟨l[i].t.toArray⟩,.slice A1 l[i].l.length c1]] W fun e w' => e = .returned (.bool (p l[i])) /\ Below W.heap.size W w'):=fun W hW => C _ W S (Good.below (HG.out.below HB.out) hW) (hva.below hW)
   clear hva C
   by_cases hp : p l[i] = true
   ·
    have HN:=hid (all_take HA.out hlt hp)
    rw [hp] at HC
    clear hp
    go_wp2_with fail
    refine (HC.out _ (bl _)).mono ?_
    rintro e w1 ⟨rfl,hb1⟩
    go_wp2_with fail
    go_roundw
    case rel => exact ⟨i + 1,by omega,by go_num,HN.out,bstep HB.out (bstep (bl _) hb1)⟩
    case measure => simp [intOf];omega
   ·
    have hp' : p l[i] = false:=by simpa using hp
    rw [hp'] at HC
    have HN:=hid (all_no hlt hp')
    clear hp hp'
    go_wp2_with fail
    refine (HC.out _ (bl _)).mono ?_
    rintro e w1 ⟨rfl,hb1⟩
    go_wp2_with fail
    go_ret
    exact ⟨ret_bool HN.out.symm,bstep HB.out (bstep (bl _) hb1)⟩
  ·
   have h2 : l.take i = l:=List.take_of_length_le (by omega)
   rw [h2] at HA
   go_wp2_with fail
   go_ret
   exact ⟨ret_bool HA.out.symm,HB.out⟩
end Go.Proofs.YtgeppafcemeidaaGreatDoor
namespace Go.Proofs.YtgeppafcemeidaaGreatDoor
open Go.RowKit
open Sy (N NT R Ev Run Pg fx hd body opnd inf RunN EvN nd nmd)
open Tk (T)
namespace Sy
def are : List N -> List (N -> Bool) -> Bool
 | [],[] => true
 | a :: l,p :: ps => p a && are l ps
 | _,_ => false
theorem are_len : ∀ {l : List N} {ps : List (N -> Bool)},l.length ≠ ps.length -> are l ps = false
 | [],[],h => absurd rfl h
 | [],_ :: _,_ => rfl
 | _ :: _,[],_ => rfl
 | a :: l,p :: ps,h => by
  rw [are,are_len (l:=l) (ps:=ps) (fun e => h (by simp [e])),Bool.and_false]
theorem are_no : ∀ {l : List N} {ps : List (N -> Bool)} (i : Nat) (h : i < l.length) (h' : i < ps.length),ps[i] l[i] = false -> are l ps = false
 | a :: l,p :: ps,0,_,_,hp => by rw [are,show p a = false from hp];rfl
 | a :: l,p :: ps,i + 1,h,h',hp => by
  rw [are,are_no (l:=l) (ps:=ps) i (by simpa using h) (by simpa using h') (by simpa using hp),Bool.and_false]
theorem are_yes : ∀ {l : List N} {ps : List (N -> Bool)},l.length = ps.length -> (∀ (i : Nat) (h : i < l.length) (h' : i < ps.length),ps[i] l[i] = true) -> are l ps = true
 | [],[],_,_ => rfl
 | a :: l,p :: ps,h,hp => by
  rw [are,show p a = true from hp 0 (by simp) (by simp),are_yes (l:=l) (ps:=ps) (by simpa using h) (fun i h h' => hp (i + 1) (by simpa using h) (by simpa using h'))];rfl
end Sy
def Fs (w : World) (kv : Value) (Ks : List Nat) : Prop:=∃ A c,kv = .slice A Ks.length c /\ Ks.length <= 10 /\ (Ks = [] \/ ∃ b o,A = some ⟨b,o,none⟩ /\ ∀ i (h : i < Ks.length),w.cell? ⟨b,o + i,none⟩ = some (.func (.func Ks[i]) #[] #[]))
theorem Fs.form {w : World} {kv : Value} {Ks : List Nat} (h : Fs w kv Ks) : ∃ A c,kv = .slice A Ks.length c:=by
 obtain ⟨A,c,h1,_⟩:=h;exact ⟨A,c,h1⟩
theorem Fs.below {w w' : World} {kv : Value} {Ks : List Nat} (h : Fs w kv Ks) (hb : Below w.heap.size w w') : Fs w' kv Ks:=by
 obtain ⟨A,c,h1,h0,h2⟩:=h
 refine ⟨A,c,h1,h0,h2.imp_right ?_⟩
 rintro ⟨b,o,h3,h4⟩
 exact ⟨b,o,h3,fun i hi => keepB (S:=fun _ => True) hb _ _ trivial (h4 i hi)⟩
theorem Fs.at_ {w : World} {kv : Value} {Ks : List Nat} (h : Fs w kv Ks) (i : Nat) (hi : i < Ks.length) : ∃ b o c,kv = .slice (some ⟨b,o,none⟩) Ks.length c /\ w.cell? ⟨b,o + i,none⟩ = some (.func (.func Ks[i]) #[] #[]):=by
 obtain ⟨A,c,rfl,h0,h2⟩:=h
 rcases h2 with rfl | ⟨b,o,rfl,h4⟩
 ·
  simp at hi
 ·
  exact ⟨b,o,c,rfl,h4 i hi⟩
theorem are_any (Ks : List Nat) (ps : List (N -> Bool)) (hn : Ks.length = ps.length) (l : List N) (iv kv : Value) (w : World) (S : Nat -> Prop) (hg : Good w) (hs : Sl w S iv l) (hf : Fs w kv Ks)
  (hen : ∀ k ∈ Ks,∀ (args : Array Value) (W : World),(callFunc k args).run Tryz.prog W = .ok (.enter k args) W) (hK : ∀ (i : Nat) (h : i < Ks.length) (h' : i < ps.length),KC Ks[i] ps[i]) :
  Calls Tryz.prog 102 #[iv,kv] w fun e w' => e = .returned (.bool (Sy.are l ps)) /\ Below w.heap.size w w':=by
 obtain ⟨A,c,rfl⟩:=hs.form
 obtain ⟨B,d,rfl⟩:=hf.form
 have hl:=hs.1
 have hk10 : Ks.length <= 10:=by obtain ⟨_,_,_,h,_⟩:=hf;exact h
 have HS:=hid hs
 have HF:=hid hf
 have HN:=hid hn
 have HK:=hid hK
 have HE:=hid hen
 clear hs hg hK hf hen hn
 by_cases hll : l.length = Ks.length
 rotate_left
 ·
  have e : Sy.are l ps = false:=Sy.are_len (by rw [<- HN.out];exact hll)
  rw [e]
  have hb : ((l.length : Int) != (Ks.length : Int)) = true:=by simp;omega
  clear e
  go_enter Tryz.func102,Tryz.ntmps102
  go_wp2_with fail
  go_ret
  exact ⟨rfl,Below.refl _ _⟩
 have hb : ((l.length : Int) != (Ks.length : Int)) = false:=by simp [hll]
 have HLL:=hid hll
 clear hll
 go_enter Tryz.func102,Tryz.ntmps102
 go_wp2_with fail
 go_loopw [14] (fun v14 wr => ∃ i : Nat,i <= l.length /\ v14 = .int .i64 (i : Int) /\ (∀ (j : Nat) (h : j < l.length) (h' : j < ps.length),j < i -> ps[j] l[j] = true) /\ Below w.heap.size w wr) (fun v14 _ => l.length - (intOf v14).toNat)
 case atStart => exact ⟨0,Nat.zero_le _,rfl,fun j _ _ h => absurd h (by omega),Below.refl _ _⟩
 case round =>
  obtain ⟨i,hi,rfl,hall,hbw⟩:=hrel
  have HB:=hid hbw
  have HA:=hid hall
  clear hbw hall
  by_cases hlt : i < l.length
  ·
   have hlk : i < Ks.length:=by have:=HLL.out;omega
   have hlp : i < ps.length:=by have:=HN.out;omega
   obtain ⟨b,o,cc,A1,c1,he,q0,q1,q2,q3,q4,hva⟩:=(HS.out.below HB.out).kids i hlt
   injection he with he1 he2 he3
   subst he1
   obtain ⟨b2,o2,c2,he',t0⟩:=(HF.out.below HB.out).at_ i hlk
   injection he' with he1' he2' he3'
   subst he1'
   clear he2 he3 he2' he3'
   have hen:=HE.out Ks[i] (List.getElem_mem hlk)
   have C:=HK.out i hlk hlp l[i]
   generalize hKi : Ks[i] = K at *
   have HC : Hid (∀ W,Below wr.heap.size wr W -> Calls Tryz.prog K #[.agg #[.int .i64 l[i].op,.string ⟨l[i].nm.toArray⟩,.int .i64 l[i].n,.string ⟨l[i].t.toArray⟩,.slice A1 l[i].l.length c1]] W fun e w' => e = .returned (.bool (ps[i] l[i])) /\ Below W.heap.size W w'):=fun W hW => C _ W S (hva.below hW)
   clear hva C hKi
   have hia : (i : Int) < (l.length : Int):=by omega
   have hib : (i : Int) < (Ks.length : Int):=by omega
   by_cases hp : ps[i] l[i] = true
   ·
    have HN2 : Hid (∀ (j : Nat) (h : j < l.length) (h' : j < ps.length),j < i + 1 -> ps[j] l[j] = true):=fun j h h' hj => by
     by_cases e : j = i
     ·
      subst e;exact hp
     ·
      exact HA.out j h h' (by omega)
    rw [hp] at HC
    clear hp
    go_wp2_with fail
    have hbx : Below wr.heap.size wr (wr.alloc (.cells #[.int .i64 l[i].op,.string ⟨l[i].nm.toArray⟩,.int .i64 l[i].n,.string ⟨l[i].t.toArray⟩,.slice A1 l[i].l.length c1] 25)):=bl _
    have HX:=hid hbx
    have hsz : wr.heap.size < (wr.alloc (.cells #[.int .i64 l[i].op,.string ⟨l[i].nm.toArray⟩,.int .i64 l[i].n,.string ⟨l[i].t.toArray⟩,.slice A1 l[i].l.length c1] 25)).heap.size:=by simp
    have t1:=keepB (S:=fun _ => True) hbx _ _ trivial t0
    have p (k : Nat):=cell_of_row (wr.alloc (.cells #[.int .i64 l[i].op,.string ⟨l[i].nm.toArray⟩,.int .i64 l[i].n,.string ⟨l[i].t.toArray⟩,.slice A1 l[i].l.length c1] 25)) wr.heap.size k _ 25 (0,0) (heap_alloc_new wr (.cells #[.int .i64 l[i].op,.string ⟨l[i].nm.toArray⟩,.int .i64 l[i].n,.string ⟨l[i].t.toArray⟩,.slice A1 l[i].l.length c1] 25))
    have p0:=p 0
    have p1:=p 1
    have p2:=p 2
    have p3:=p 3
    have p4:=p 4
    simp only [List.getElem?_toArray,List.getElem?_cons_succ,List.getElem?_cons_zero] at p0 p1 p2 p3 p4
    clear p hbx t0 q0 q1 q2 q3 q4
    generalize wr.alloc (.cells #[.int .i64 l[i].op,.string ⟨l[i].nm.toArray⟩,.int .i64 l[i].n,.string ⟨l[i].t.toArray⟩,.slice A1 l[i].l.length c1] 25) = wx at *
    have HDR : Hid (Below wx.heap.size wx wx.drew):=(Below.refl _ _).drew
    go_region_held3 (fun W => W.cell? ⟨wr.heap.size,0,none⟩ = some (.int .i64 l[i].op) /\ W.cell? ⟨wr.heap.size,1,none⟩ = some (.string ⟨l[i].nm.toArray⟩) /\ W.cell? ⟨wr.heap.size,2,none⟩ = some (.int .i64 l[i].n) /\ W.cell? ⟨wr.heap.size,3,none⟩ = some (.string ⟨l[i].t.toArray⟩) /\ W.cell? ⟨wr.heap.size,4,none⟩ = some (.slice A1 l[i].l.length c1) /\ W.cell? ⟨b2,o2 + i,none⟩ = some (.func (.func K) #[] #[]))
     (first | exact HS9.out | go_keep)
     (first
      | ((with_reducible refine (HC.out _ (HX.out.trans (HDR.out.mono (by omega)))).mono ?_);rintro e w3 ⟨rfl,hb3⟩;have HB3:=hid hb3;have kk : ∀ {a : Addr} {u : Value},wx.cell? a = some u -> w3.cell? a = some u:=(fun hc => ((HDR.out.trans (HB3.out.mono HDR.out.size)).cell (World.block_lt_of_cell? _ _ hc)).trans hc);have HS9:=hid (And.intro (kk p0) (And.intro (kk p1) (And.intro (kk p2) (And.intro (kk p3) (And.intro (kk p4) (kk t1))))));clear hb3 kk))
    have HZ:=hid (HX.out.trans ((HDR.out.trans (HB3.out.mono HDR.out.size)).mono (by omega)))
    go_wp2_with fail
    go_roundw
    case rel => exact ⟨i + 1,by omega,by go_num,HN2.out,bstep HB.out HZ.out⟩
    case measure => simp [intOf];omega
   ·
    have hp' : ps[i] l[i] = false:=by simpa using hp
    rw [hp'] at HC
    have HN2:=hid (Sy.are_no i hlt hlp hp')
    clear hp hp'
    go_wp2_with fail
    have hbx : Below wr.heap.size wr (wr.alloc (.cells #[.int .i64 l[i].op,.string ⟨l[i].nm.toArray⟩,.int .i64 l[i].n,.string ⟨l[i].t.toArray⟩,.slice A1 l[i].l.length c1] 25)):=bl _
    have HX:=hid hbx
    have hsz : wr.heap.size < (wr.alloc (.cells #[.int .i64 l[i].op,.string ⟨l[i].nm.toArray⟩,.int .i64 l[i].n,.string ⟨l[i].t.toArray⟩,.slice A1 l[i].l.length c1] 25)).heap.size:=by simp
    have t1:=keepB (S:=fun _ => True) hbx _ _ trivial t0
    have p (k : Nat):=cell_of_row (wr.alloc (.cells #[.int .i64 l[i].op,.string ⟨l[i].nm.toArray⟩,.int .i64 l[i].n,.string ⟨l[i].t.toArray⟩,.slice A1 l[i].l.length c1] 25)) wr.heap.size k _ 25 (0,0) (heap_alloc_new wr (.cells #[.int .i64 l[i].op,.string ⟨l[i].nm.toArray⟩,.int .i64 l[i].n,.string ⟨l[i].t.toArray⟩,.slice A1 l[i].l.length c1] 25))
    have p0:=p 0
    have p1:=p 1
    have p2:=p 2
    have p3:=p 3
    have p4:=p 4
    simp only [List.getElem?_toArray,List.getElem?_cons_succ,List.getElem?_cons_zero] at p0 p1 p2 p3 p4
    clear p hbx t0 q0 q1 q2 q3 q4
    generalize wr.alloc (.cells #[.int .i64 l[i].op,.string ⟨l[i].nm.toArray⟩,.int .i64 l[i].n,.string ⟨l[i].t.toArray⟩,.slice A1 l[i].l.length c1] 25) = wx at *
    have HDR : Hid (Below wx.heap.size wx wx.drew):=(Below.refl _ _).drew
    go_region_held3 (fun W => W.cell? ⟨wr.heap.size,0,none⟩ = some (.int .i64 l[i].op) /\ W.cell? ⟨wr.heap.size,1,none⟩ = some (.string ⟨l[i].nm.toArray⟩) /\ W.cell? ⟨wr.heap.size,2,none⟩ = some (.int .i64 l[i].n) /\ W.cell? ⟨wr.heap.size,3,none⟩ = some (.string ⟨l[i].t.toArray⟩) /\ W.cell? ⟨wr.heap.size,4,none⟩ = some (.slice A1 l[i].l.length c1) /\ W.cell? ⟨b2,o2 + i,none⟩ = some (.func (.func K) #[] #[]))
     (first | exact HS9.out | go_keep)
     (first
      | ((with_reducible refine (HC.out _ (HX.out.trans (HDR.out.mono (by omega)))).mono ?_);rintro e w3 ⟨rfl,hb3⟩;have HB3:=hid hb3;have kk : ∀ {a : Addr} {u : Value},wx.cell? a = some u -> w3.cell? a = some u:=(fun hc => ((HDR.out.trans (HB3.out.mono HDR.out.size)).cell (World.block_lt_of_cell? _ _ hc)).trans hc);have HS9:=hid (And.intro (kk p0) (And.intro (kk p1) (And.intro (kk p2) (And.intro (kk p3) (And.intro (kk p4) (kk t1))))));clear hb3 kk))
    have HZ:=hid (HX.out.trans ((HDR.out.trans (HB3.out.mono HDR.out.size)).mono (by omega)))
    go_wp2_with fail
    go_ret
    exact ⟨ret_bool HN2.out.symm,bstep HB.out HZ.out⟩
  ·
   have h2 : Sy.are l ps = true:=Sy.are_yes (by rw [HLL.out,HN.out]) (fun j h h' => HA.out j h h' (by omega))
   have HH:=hid h2
   clear h2
   go_wp2_with fail
   go_ret
   exact ⟨ret_bool HH.out.symm,HB.out⟩
end Go.Proofs.YtgeppafcemeidaaGreatDoor
namespace Go.Proofs.YtgeppafcemeidaaGreatDoor
open Go.RowKit
open Sy (N NT R Ev Run Pg fx hd body opnd inf RunN EvN nd nmd)
open Tk (T)
namespace Sy
def isName (s : List UInt8) : Bool:=match Tk.scanA s with
 | .bad _ _ => false
 | .good l => match l with
  | [a,_] => a.k == 1 && a.t == s
  | _ => false
theorem isName_bad {s : List UInt8} {o c : Int} (h : Tk.scanA s = .bad o c) : isName s = false:=by unfold isName;rw [h]
theorem isName_len {s : List UInt8} {l : List T} (h : Tk.scanA s = .good l) (hl : l.length ≠ 2) : isName s = false:=by
 unfold isName
 rw [h]
 match l,hl with
 | [],_ => rfl
 | [_],_ => rfl
 | [_,_],h => simp at h
 | _ :: _ :: _ :: _,_ => rfl
theorem isName_two {s : List UInt8} {a b : T} (h : Tk.scanA s = .good [a,b]) : isName s = (a.k == 1 && a.t == s):=by unfold isName;rw [h]
end Sy
theorem isName_any (s : List UInt8) (w : World) (hG : Good w) : Calls Tryz.prog 100 #[.string ⟨s.toArray⟩] w fun e w' => e = .returned (.bool (Sy.isName s)) /\ Below w.heap.size w w':=by
 have C:=hid (scan_any ⟨s.toArray⟩ w hG)
 clear hG
 rw [show (ByteArray.mk s.toArray).data.toList = s from rfl] at C
 cases hr : Tk.scanA s with
 | bad o c =>
  rw [Sy.isName_bad hr]
  rw [hr] at C
  clear hr
  go_enter Tryz.func100,Tryz.ntmps100
  go_wp2_with (go_at_call 44;refine C.out.mono ?_;rintro e w1 ⟨rfl,hb1⟩)
  go_ret
  exact ⟨rfl,hb1⟩
 | good l =>
  by_cases hl : l.length = 2
  rotate_left
  ·
   rw [Sy.isName_len hr hl]
   rw [hr] at C
   clear hr
   have hb : ((l.length : Int) == 2) = false:=by simp;omega
   clear hl
   go_enter Tryz.func100,Tryz.ntmps100
   go_wp2_with (go_at_call 44;refine C.out.mono ?_;rintro e w1 ⟨v,rfl,hO,hb1⟩;obtain ⟨A,c,rfl⟩:=hO.rd.form')
   go_ret
   exact ⟨rfl,hb1⟩
  match l,hl with
  | [a,b],_ =>
  rw [Sy.isName_two hr]
  rw [hr] at C
  clear hr
  obtain ⟨ak,aat,at_,an⟩:=a
  show Calls _ _ _ _ (fun e w' => e = .returned (.bool (ak == 1 && at_ == s)) /\ _)
  go_enter Tryz.func100,Tryz.ntmps100
  go_wp2_with (go_at_call 44;refine C.out.mono ?_;rintro e w1 ⟨v,rfl,hO,hb1⟩;obtain ⟨A,c,rfl⟩:=hO.rd.form';obtain ⟨b1,o1,rfl,q0,q1,q2,q3⟩:=hO.rd.at_ 0 (by simp);simp only [List.getElem_cons_zero,Nat.zero_mul,Nat.add_zero] at q0 q2;replace q2 : w1.cell? ⟨b1,o1 + 2,none⟩ = some (.string ⟨at_.toArray⟩):=q2)
  all_goals go_ret
  all_goals exact ⟨ret_bool (by simp_all),hb1⟩
end Go.Proofs.YtgeppafcemeidaaGreatDoor
namespace Go.Proofs.YtgeppafcemeidaaGreatDoor
open Go.RowKit
open Sy (N NT R Ev Run Pg fx hd body opnd inf RunN EvN nd nmd)
open Tk (T)
namespace Sy
def fields (op : Int) (nm : List UInt8) (n : Int) (t : List UInt8) : Bool :=
 if op = 4 then nm == [] && decide (0 <= n) && t == []
 else if op = 5 \/ op = 9 then nm == [] && n == 0 && decide (t.length <= 4096)
 else if op ∈ [6,10,11,29,40,41,46,48,61,62] then isName nm && n == 0 && t == []
 else if op = 50 then (nm == [] || isName nm) && n == 0 && t == []
 else if op = 63 \/ op = 64 \/ op = 65 then isName nm && n == 0 && isName t
 else nm == [] && n == 0 && t == []
end Sy
theorem fields_4 (nm : List UInt8) (n : Int) (t : List UInt8) (l : List N) (A : Option Addr) (c : Nat) (w : World) (hG : Good w) (ht : t.length <= 9223372036854775807) :
  Calls Tryz.prog 57 #[.agg #[.int .i64 4,.string ⟨nm.toArray⟩,.int .i64 n,.string ⟨t.toArray⟩,.slice A l.length c]] w fun e w' => e = .returned (.bool (Sy.fields 4 nm n t)) /\ Below w.heap.size w w':=by
 have HD : Hid (Sy.fields 4 nm n t = (nm == [] && decide (0 <= n) && t == [])):=rfl
 generalize Sy.fields 4 nm n t = dd at HD |-
 have HG:=hid hG
 clear hG
 go_enter Tryz.func57,Tryz.ntmps57
 go_wp2_with fail
 all_goals go_ret
 all_goals exact ⟨ret_bool (by rw [HD.out];first | (simp_all;done) | (simp_all;omega) | (simp_all;intros;omega)),bl _⟩
theorem fields_g1 (op : Int) (hop : op = 5 \/ op = 9) (nm : List UInt8) (n : Int) (t : List UInt8) (l : List N) (A : Option Addr) (c : Nat) (w : World) (hG : Good w) (ht : t.length <= 9223372036854775807) :
  Calls Tryz.prog 57 #[.agg #[.int .i64 op,.string ⟨nm.toArray⟩,.int .i64 n,.string ⟨t.toArray⟩,.slice A l.length c]] w fun e w' => e = .returned (.bool (Sy.fields op nm n t)) /\ Below w.heap.size w w':=by
 have HD : Hid (Sy.fields op nm n t = (nm == [] && n == 0 && decide (t.length <= 4096))):=by rcases hop with rfl | rfl <;> rfl
 generalize Sy.fields op nm n t = dd at HD |-
 have HG:=hid hG
 clear hG
 rcases hop with rfl | rfl
 all_goals
  go_enter Tryz.func57,Tryz.ntmps57
  go_wp2_with fail
  all_goals go_ret
  all_goals exact ⟨ret_bool (by rw [HD.out];first | (simp_all;done) | (simp_all;omega) | (simp_all;intros;omega)),bl _⟩
theorem fields_g2 (op : Int) (hop : op = 6 \/ op = 10 \/ op = 11 \/ op = 29 \/ op = 40 \/ op = 41 \/ op = 46 \/ op = 48 \/ op = 61 \/ op = 62) (nm : List UInt8) (n : Int) (t : List UInt8) (l : List N) (A : Option Addr) (c : Nat) (w : World) (hG : Good w) (ht : t.length <= 9223372036854775807) :
  Calls Tryz.prog 57 #[.agg #[.int .i64 op,.string ⟨nm.toArray⟩,.int .i64 n,.string ⟨t.toArray⟩,.slice A l.length c]] w fun e w' => e = .returned (.bool (Sy.fields op nm n t)) /\ Below w.heap.size w w':=by
 have HD : Hid (Sy.fields op nm n t = (Sy.isName nm && n == 0 && t == [])):=by rcases hop with rfl | rfl | rfl | rfl | rfl | rfl | rfl | rfl | rfl | rfl <;> rfl
 generalize Sy.fields op nm n t = dd at HD |-
 have HG:=hid hG
 clear hG
 rcases hop with rfl | rfl | rfl | rfl | rfl | rfl | rfl | rfl | rfl | rfl
 all_goals
  go_enter Tryz.func57,Tryz.ntmps57
  go_wp2_with (go_at_call 100;refine (isName_any _ _ (HG.out.below (bl _))).mono ?_;rintro e w1 ⟨rfl,hb1⟩;have hx:=(Bx.refl (w:=w) (cs:=#[.int .i64 _,.string ⟨nm.toArray⟩,.int .i64 n,.string ⟨t.toArray⟩,.slice A l.length c])).step hb1;have q1:=hx.cell 1;have q2:=hx.cell 2;have q3:=hx.cell 3;simp only [List.getElem?_toArray,List.getElem?_cons_succ,List.getElem?_cons_zero] at q1 q2 q3;have HX:=hid hx;clear hb1 hx)
  all_goals go_ret
  all_goals first
   | exact ⟨ret_bool (by rw [HD.out];simp_all),HX.out.below⟩
   | exact ⟨ret_bool (by rw [HD.out];simp_all),bl _⟩
theorem fields_50 (nm : List UInt8) (n : Int) (t : List UInt8) (l : List N) (A : Option Addr) (c : Nat) (w : World) (hG : Good w) (ht : t.length <= 9223372036854775807) :
  Calls Tryz.prog 57 #[.agg #[.int .i64 50,.string ⟨nm.toArray⟩,.int .i64 n,.string ⟨t.toArray⟩,.slice A l.length c]] w fun e w' => e = .returned (.bool (Sy.fields 50 nm n t)) /\ Below w.heap.size w w':=by
 have HD : Hid (Sy.fields 50 nm n t = ((nm == [] || Sy.isName nm) && n == 0 && t == [])):=rfl
 generalize Sy.fields 50 nm n t = dd at HD |-
 have HG:=hid hG
 clear hG
 go_enter Tryz.func57,Tryz.ntmps57
 go_wp2_with (go_at_call 100;refine (isName_any _ _ (HG.out.below (bl _))).mono ?_;rintro e w1 ⟨rfl,hb1⟩;have hx:=(Bx.refl (w:=w) (cs:=#[.int .i64 50,.string ⟨nm.toArray⟩,.int .i64 n,.string ⟨t.toArray⟩,.slice A l.length c])).step hb1;have q1:=hx.cell 1;have q2:=hx.cell 2;have q3:=hx.cell 3;simp only [List.getElem?_toArray,List.getElem?_cons_succ,List.getElem?_cons_zero] at q1 q2 q3;have HX:=hid hx;clear hb1 hx)
 all_goals go_ret
 all_goals first
  | exact ⟨ret_bool (by rw [HD.out];simp_all),HX.out.below⟩
  | exact ⟨ret_bool (by rw [HD.out];simp_all),bl _⟩
theorem fields_g3 (op : Int) (hop : op = 63 \/ op = 64 \/ op = 65) (nm : List UInt8) (n : Int) (t : List UInt8) (l : List N) (A : Option Addr) (c : Nat) (w : World) (hG : Good w) (ht : t.length <= 9223372036854775807) :
  Calls Tryz.prog 57 #[.agg #[.int .i64 op,.string ⟨nm.toArray⟩,.int .i64 n,.string ⟨t.toArray⟩,.slice A l.length c]] w fun e w' => e = .returned (.bool (Sy.fields op nm n t)) /\ Below w.heap.size w w':=by
 have HD : Hid (Sy.fields op nm n t = (Sy.isName nm && n == 0 && Sy.isName t)):=by rcases hop with rfl | rfl | rfl <;> rfl
 generalize Sy.fields op nm n t = dd at HD |-
 have HG:=hid hG
 clear hG
 rcases hop with rfl | rfl | rfl
 all_goals
  go_enter Tryz.func57,Tryz.ntmps57
  go_wp2_with (first
   | (go_at_call 100;(with_reducible refine (isName_any nm _ (HG.out.below (bl _))).mono ?_);rintro e w1 ⟨rfl,hb1⟩;have hx:=(Bx.refl (w:=w) (cs:=#[.int .i64 _,.string ⟨nm.toArray⟩,.int .i64 n,.string ⟨t.toArray⟩,.slice A l.length c])).step hb1;have q1:=hx.cell 1;have q2:=hx.cell 2;have q3:=hx.cell 3;simp only [List.getElem?_toArray,List.getElem?_cons_succ,List.getElem?_cons_zero] at q1 q2 q3;have HX:=hid hx;clear hb1 hx)
   | (go_at_call 100;(with_reducible refine (isName_any t _ (HG.out.below HX.out.below)).mono ?_);rintro e w2 ⟨rfl,hb2⟩;have HX:=hid (HX.out.step hb2);clear hb2))
  all_goals go_ret
  all_goals exact ⟨ret_bool (by rw [HD.out];simp_all),HX.out.below⟩
theorem fields_else (op : Int) (hop : op ∉ [4,5,9,6,10,11,29,40,41,46,48,61,62,50,63,64,65]) (nm : List UInt8) (n : Int) (t : List UInt8) (l : List N) (A : Option Addr) (c : Nat) (w : World) (hG : Good w) (ht : t.length <= 9223372036854775807) :
  Calls Tryz.prog 57 #[.agg #[.int .i64 op,.string ⟨nm.toArray⟩,.int .i64 n,.string ⟨t.toArray⟩,.slice A l.length c]] w fun e w' => e = .returned (.bool (Sy.fields op nm n t)) /\ Below w.heap.size w w':=by
 have HD : Hid (Sy.fields op nm n t = (nm == [] && n == 0 && t == [])):=by
  show _ = _
  simp only [List.mem_cons,List.not_mem_nil,or_false,not_or] at hop
  unfold Sy.fields
  simp [hop]
 simp only [List.mem_cons,List.not_mem_nil,or_false,not_or] at hop
 obtain ⟨h4,h5,h9,h6,h10,h11,h29,h40,h41,h46,h48,h61,h62,h50,h63,h64,h65⟩:=hop
 have c4 : (op == 4) = false:=by simpa using h4
 have c5 : (op == 5) = false:=by simpa using h5
 have c9 : (op == 9) = false:=by simpa using h9
 have c6 : (op == 6) = false:=by simpa using h6
 have c10 : (op == 10) = false:=by simpa using h10
 have c11 : (op == 11) = false:=by simpa using h11
 have c29 : (op == 29) = false:=by simpa using h29
 have c40 : (op == 40) = false:=by simpa using h40
 have c41 : (op == 41) = false:=by simpa using h41
 have c46 : (op == 46) = false:=by simpa using h46
 have c48 : (op == 48) = false:=by simpa using h48
 have c61 : (op == 61) = false:=by simpa using h61
 have c62 : (op == 62) = false:=by simpa using h62
 have c50 : (op == 50) = false:=by simpa using h50
 have c63 : (op == 63) = false:=by simpa using h63
 have c64 : (op == 64) = false:=by simpa using h64
 have c65 : (op == 65) = false:=by simpa using h65
 clear h4 h5 h9 h6 h10 h11 h29 h40 h41 h46 h48 h61 h62 h50 h63 h64 h65
 generalize Sy.fields op nm n t = dd at HD |-
 have HG:=hid hG
 clear hG
 go_enter Tryz.func57,Tryz.ntmps57
 go_wp2_with fail
 all_goals go_ret
 all_goals exact ⟨ret_bool (by rw [HD.out];first | (simp_all;done) | (simp_all;omega) | (simp_all;intros;omega)),bl _⟩
theorem fields_any (v : N) (a : Value) (w : World) (S : Nat -> Prop) (hG : Good w) (h : NA w S a v) :
  Calls Tryz.prog 57 #[a] w fun e w' => e = .returned (.bool (Sy.fields v.op v.nm v.n v.t)) /\ Below w.heap.size w w':=by
 match v with
 | .mk op nm n t l =>
 obtain ⟨A,c,xs,rfl,ho,hl,hr,hvs⟩:=h.open2
 have ht : t.length <= 9223372036854775807:=ho.2.2.2.2.2.1
 show Calls _ _ _ _ (fun e w' => e = .returned (.bool (Sy.fields op nm n t)) /\ _)
 by_cases h4 : op = 4
 ·
  subst h4;exact fields_4 nm n t l A c w hG ht
 by_cases hg1 : op = 5 \/ op = 9
 ·
  exact fields_g1 op hg1 nm n t l A c w hG ht
 by_cases hg2 : op = 6 \/ op = 10 \/ op = 11 \/ op = 29 \/ op = 40 \/ op = 41 \/ op = 46 \/ op = 48 \/ op = 61 \/ op = 62
 ·
  exact fields_g2 op hg2 nm n t l A c w hG ht
 by_cases h50 : op = 50
 ·
  subst h50;exact fields_50 nm n t l A c w hG ht
 by_cases hg3 : op = 63 \/ op = 64 \/ op = 65
 ·
  exact fields_g3 op hg3 nm n t l A c w hG ht
 exact fields_else op (by simp only [List.mem_cons,List.not_mem_nil,or_false,not_or];omega) nm n t l A c w hG ht
end Go.Proofs.YtgeppafcemeidaaGreatDoor
namespace Go.Proofs.YtgeppafcemeidaaGreatDoor
open Go.RowKit
open Sy (N NT R Ev Run Pg fx hd body opnd inf RunN EvN nd nmd)
open Tk (T)
def En (k : Nat) : Prop:=∀ (args : Array Value) (W : World),(callFunc k args).run Tryz.prog W = .ok (.enter k args) W
theorem Tryz.en_isExpr : En 36:=fun args W => by kernel_rfl
theorem Tryz.en_isStatement : En 153:=fun args W => by kernel_rfl
theorem Tryz.en_isDeclaration : En 101:=fun args W => by kernel_rfl
theorem Tryz.en_isBlock : En 105:=fun args W => by kernel_rfl
theorem Tryz.en_isCase : En 179:=fun args W => by kernel_rfl
theorem Tryz.en_isPair : En 150:=fun args W => by kernel_rfl
theorem Tryz.en_isParameter : En 104:=fun args W => by kernel_rfl
theorem Tryz.en_isConstant : En 103:=fun args W => by kernel_rfl
theorem Tryz.en_isAlternative : En 151:=fun args W => by kernel_rfl
def KCs : List Nat -> List (N -> Bool) -> Prop
 | [],[] => True
 | k :: Ks,p :: ps => (En k /\ KC k p) /\ KCs Ks ps
 | _,_ => False
theorem KCs.all : ∀ {Ks : List Nat} {ps : List (N -> Bool)},KCs Ks ps -> Ks.length = ps.length /\ (∀ k ∈ Ks,En k) /\ ∀ (i : Nat) (h : i < Ks.length) (h' : i < ps.length),KC Ks[i] ps[i]
 | [],[],_ => ⟨rfl,fun k hk => absurd hk (by simp),fun i h => absurd h (by simp)⟩
 | k :: Ks,p :: ps,h => by
  obtain ⟨h1,h2,h3⟩:=KCs.all (Ks:=Ks) (ps:=ps) h.2
  refine ⟨by simp [h1],fun k' hk => ?_,fun i hi hi' => ?_⟩
  ·
   rcases List.mem_cons.1 hk with rfl | hk
   ·
    exact h.1.1
   ·
    exact h2 _ hk
  ·
   match i with
   | 0 => exact h.1.2
   | i + 1 => exact h3 i (by simpa using hi) (by simpa using hi')
 | [],_ :: _,h => absurd h id
 | _ :: _,[],h => absurd h id
theorem are_k {Ks : List Nat} {ps : List (N -> Bool)} (hk : KCs Ks ps) {l : List N} {iv : Value} {w : World} {S : Nat -> Prop} (hg : Good w) (hs : Sl w S iv l) :
  ∀ kv W,Below w.heap.size w W -> Fs W kv Ks -> Calls Tryz.prog 102 #[iv,kv] W fun e w' => e = .returned (.bool (Sy.are l ps)) /\ Below W.heap.size W w' :=
 fun kv W hW hf => are_any Ks ps hk.all.1 l iv kv W S (hg.below hW) (hs.below hW) hf hk.all.2.1 hk.all.2.2
def fsCells (Ks : List Nat) : Array Value:=(Ks.map fun k => Value.func (.func k) #[] #[]).toArray
theorem Fs.new {w : World} {Ks : List Nat} {t : TypeId} {c : Nat} (h : Ks.length <= 10) : Fs (w.alloc (.cells (fsCells Ks) t)) (.slice (some ⟨w.heap.size,0,none⟩) Ks.length c) Ks:=by
 refine ⟨_,c,rfl,h,.inr ⟨_,0,rfl,fun i hi => ?_⟩⟩
 rw [cell_of_row (w.alloc (.cells (fsCells Ks) t)) w.heap.size (0 + i) _ t (0,0) (heap_alloc_new w _)]
 simp [fsCells,hi]
theorem Fs.none_ {w : World} : Fs w (.slice none 0 0) []:=⟨none,0,rfl,by simp,.inl rfl⟩
namespace Sy
def exprKids (op : Int) (l : List N) : Bool :=
 if op ∈ [1,2,3,4,5,6] then (l.length : Int) == 0
 else if op ∈ [7,10,11] then l.all kExpr
 else if op = 8 then l.all kPair
 else if op ∈ [9,12,13,14,29] then are l [kExpr]
 else if op ∈ [15,16,17,18,19,20,21,22,23,24,25,26,27,28] then are l [kExpr,kExpr]
 else false
end Sy
theorem xk_g1 (op : Int) (hop : op = 1 \/ op = 2 \/ op = 3 \/ op = 4 \/ op = 5 \/ op = 6) (l : List N) (iv : Value) (w : World) (S : Nat -> Prop) (hG : Good w) (h : Sl w S iv l) :
  Calls Tryz.prog 106 #[.int .i64 op,iv] w fun e w' => e = .returned (.bool (Sy.exprKids op l)) /\ Below w.heap.size w w':=by
 have HD : Hid (Sy.exprKids op l = ((l.length : Int) == 0)):=by rcases hop with rfl | rfl | rfl | rfl | rfl | rfl <;> rfl
 generalize Sy.exprKids op l = dd at HD |-
 obtain ⟨A,c,rfl⟩:=h.form
 have hl:=h.1
 clear h hG
 rcases hop with rfl | rfl | rfl | rfl | rfl | rfl
 all_goals
  go_enter Tryz.func106,Tryz.ntmps106
  go_wp2_with fail
  go_ret
  exact ⟨ret_bool HD.out.symm,Below.refl _ _⟩
theorem xk_g2 (op : Int) (hop : op = 7 \/ op = 10 \/ op = 11) (l : List N) (iv : Value) (w : World) (S : Nat -> Prop) (hG : Good w) (h : Sl w S iv l) :
  Calls Tryz.prog 106 #[.int .i64 op,iv] w fun e w' => e = .returned (.bool (Sy.exprKids op l)) /\ Below w.heap.size w w':=by
 have HD : Hid (Sy.exprKids op l = (l.all Sy.kExpr)):=by rcases hop with rfl | rfl | rfl <;> rfl
 generalize Sy.exprKids op l = dd at HD |-
 obtain ⟨A,c,rfl⟩:=h.form
 have hl:=h.1
 have C:=hid (all_any 36 _ Tryz.en_isExpr l _ w S hG h (fun u _ => expr_k.ka u))
 clear h hG
 rcases hop with rfl | rfl | rfl
 all_goals
  go_enter Tryz.func106,Tryz.ntmps106
  go_wp2_with (go_at_call 59;refine C.out.mono ?_;rintro e w1 ⟨rfl,hb1⟩)
  go_ret
  exact ⟨ret_bool HD.out.symm,hb1⟩
theorem xk_8 (l : List N) (iv : Value) (w : World) (S : Nat -> Prop) (hG : Good w) (h : Sl w S iv l) :
  Calls Tryz.prog 106 #[.int .i64 8,iv] w fun e w' => e = .returned (.bool (Sy.exprKids 8 l)) /\ Below w.heap.size w w':=by
 have HD : Hid (Sy.exprKids 8 l = (l.all Sy.kPair)):=rfl
 generalize Sy.exprKids 8 l = dd at HD |-
 obtain ⟨A,c,rfl⟩:=h.form
 have hl:=h.1
 have C:=hid (all_any 150 _ Tryz.en_isPair l _ w S hG h (fun u _ => pairk_k.ka u))
 clear h hG
 go_enter Tryz.func106,Tryz.ntmps106
 go_wp2_with (go_at_call 59;refine C.out.mono ?_;rintro e w1 ⟨rfl,hb1⟩)
 go_ret
 exact ⟨ret_bool HD.out.symm,hb1⟩
theorem xk_g3 (op : Int) (hop : op = 9 \/ op = 12 \/ op = 13 \/ op = 14 \/ op = 29) (l : List N) (iv : Value) (w : World) (S : Nat -> Prop) (hG : Good w) (h : Sl w S iv l) :
  Calls Tryz.prog 106 #[.int .i64 op,iv] w fun e w' => e = .returned (.bool (Sy.exprKids op l)) /\ Below w.heap.size w w':=by
 have HD : Hid (Sy.exprKids op l = (Sy.are l [Sy.kExpr])):=by rcases hop with rfl | rfl | rfl | rfl | rfl <;> rfl
 generalize Sy.exprKids op l = dd at HD |-
 obtain ⟨A,c,rfl⟩:=h.form
 have hl:=h.1
 have C:=hid (are_k (Ks:=[36]) (ps:=[Sy.kExpr]) ⟨⟨Tryz.en_isExpr,expr_k⟩,trivial⟩ hG h)
 clear h hG
 rcases hop with rfl | rfl | rfl | rfl | rfl
 all_goals
  go_enter Tryz.func106,Tryz.ntmps106
  go_wp2_with (go_at_call 102;refine (C.out _ _ (bl _) (Fs.new (Ks:=[36]) (by simp))).mono ?_;rintro e w1 ⟨rfl,hb1⟩)
  go_ret
  exact ⟨ret_bool HD.out.symm,bstep (bl _) hb1⟩
theorem xk_g4 (op : Int) (hop : op = 15 \/ op = 16 \/ op = 17 \/ op = 18 \/ op = 19 \/ op = 20 \/ op = 21 \/ op = 22 \/ op = 23 \/ op = 24 \/ op = 25 \/ op = 26 \/ op = 27 \/ op = 28) (l : List N) (iv : Value) (w : World) (S : Nat -> Prop) (hG : Good w) (h : Sl w S iv l) :
  Calls Tryz.prog 106 #[.int .i64 op,iv] w fun e w' => e = .returned (.bool (Sy.exprKids op l)) /\ Below w.heap.size w w':=by
 have HD : Hid (Sy.exprKids op l = (Sy.are l [Sy.kExpr,Sy.kExpr])):=by rcases hop with rfl | rfl | rfl | rfl | rfl | rfl | rfl | rfl | rfl | rfl | rfl | rfl | rfl | rfl <;> rfl
 generalize Sy.exprKids op l = dd at HD |-
 obtain ⟨A,c,rfl⟩:=h.form
 have hl:=h.1
 have C:=hid (are_k (Ks:=[36,36]) (ps:=[Sy.kExpr,Sy.kExpr]) ⟨⟨Tryz.en_isExpr,expr_k⟩,⟨⟨Tryz.en_isExpr,expr_k⟩,trivial⟩⟩ hG h)
 clear h hG
 rcases hop with rfl | rfl | rfl | rfl | rfl | rfl | rfl | rfl | rfl | rfl | rfl | rfl | rfl | rfl
 all_goals
  go_enter Tryz.func106,Tryz.ntmps106
  go_wp2_with (go_at_call 102;refine (C.out _ _ (bl _) (Fs.new (Ks:=[36,36]) (by simp))).mono ?_;rintro e w1 ⟨rfl,hb1⟩)
  go_ret
  exact ⟨ret_bool HD.out.symm,bstep (bl _) hb1⟩
theorem xk_else (op : Int) (hop : op < 1 \/ 29 < op) (l : List N) (iv : Value) (w : World) (S : Nat -> Prop) (h : Sl w S iv l) :
  Calls Tryz.prog 106 #[.int .i64 op,iv] w fun e w' => e = .returned (.bool (Sy.exprKids op l)) /\ Below w.heap.size w w':=by
 have HD : Hid (Sy.exprKids op l = false):=by
  show _ = _
  unfold Sy.exprKids
  simp only [List.mem_cons,List.not_mem_nil,or_false]
  iterate 5 (rw [if_neg (by omega)])
 generalize Sy.exprKids op l = dd at HD |-
 obtain ⟨A,c,rfl⟩:=h.form
 clear h
 have c1 : (op == 1) = false:=by simp;omega
 have c2 : (op == 2) = false:=by simp;omega
 have c3 : (op == 3) = false:=by simp;omega
 have c4 : (op == 4) = false:=by simp;omega
 have c5 : (op == 5) = false:=by simp;omega
 have c6 : (op == 6) = false:=by simp;omega
 have c7 : (op == 7) = false:=by simp;omega
 have c8 : (op == 8) = false:=by simp;omega
 have c9 : (op == 9) = false:=by simp;omega
 have c10 : (op == 10) = false:=by simp;omega
 have c11 : (op == 11) = false:=by simp;omega
 have c12 : (op == 12) = false:=by simp;omega
 have c13 : (op == 13) = false:=by simp;omega
 have c14 : (op == 14) = false:=by simp;omega
 have c15 : (op == 15) = false:=by simp;omega
 have c16 : (op == 16) = false:=by simp;omega
 have c17 : (op == 17) = false:=by simp;omega
 have c18 : (op == 18) = false:=by simp;omega
 have c19 : (op == 19) = false:=by simp;omega
 have c20 : (op == 20) = false:=by simp;omega
 have c21 : (op == 21) = false:=by simp;omega
 have c22 : (op == 22) = false:=by simp;omega
 have c23 : (op == 23) = false:=by simp;omega
 have c24 : (op == 24) = false:=by simp;omega
 have c25 : (op == 25) = false:=by simp;omega
 have c26 : (op == 26) = false:=by simp;omega
 have c27 : (op == 27) = false:=by simp;omega
 have c28 : (op == 28) = false:=by simp;omega
 have c29 : (op == 29) = false:=by simp;omega
 clear hop
 go_enter Tryz.func106,Tryz.ntmps106
 go_wp2_with fail
 go_ret
 exact ⟨ret_bool HD.out.symm,Below.refl _ _⟩
theorem xk_any (op : Int) (l : List N) (iv : Value) (w : World) (S : Nat -> Prop) (hG : Good w) (h : Sl w S iv l) :
  Calls Tryz.prog 106 #[.int .i64 op,iv] w fun e w' => e = .returned (.bool (Sy.exprKids op l)) /\ Below w.heap.size w w':=by
 by_cases hg1 : op = 1 \/ op = 2 \/ op = 3 \/ op = 4 \/ op = 5 \/ op = 6
 ·
  exact xk_g1 op hg1 l iv w S hG h
 by_cases hg2 : op = 7 \/ op = 10 \/ op = 11
 ·
  exact xk_g2 op hg2 l iv w S hG h
 by_cases h8 : op = 8
 ·
  subst h8;exact xk_8 l iv w S hG h
 by_cases hg3 : op = 9 \/ op = 12 \/ op = 13 \/ op = 14 \/ op = 29
 ·
  exact xk_g3 op hg3 l iv w S hG h
 by_cases hg4 : op = 15 \/ op = 16 \/ op = 17 \/ op = 18 \/ op = 19 \/ op = 20 \/ op = 21 \/ op = 22 \/ op = 23 \/ op = 24 \/ op = 25 \/ op = 26 \/ op = 27 \/ op = 28
 ·
  exact xk_g4 op hg4 l iv w S hG h
 exact xk_else op (by omega) l iv w S h
end Go.Proofs.YtgeppafcemeidaaGreatDoor
namespace Go.Proofs.YtgeppafcemeidaaGreatDoor
open Go.RowKit
open Sy (N NT R Ev Run Pg fx hd body opnd inf RunN EvN nd nmd)
open Tk (T)
theorem Sl.cap {w : World} {S : Nat -> Prop} {A : Option Addr} {n c : Nat} {l : List N} (h : Sl w S (.slice A n c) l) : l.length <= c:=by
 obtain ⟨_,_,⟨_,_,he,h1,_⟩,_⟩:=h
 injection he with e1 e2 e3
 omega
theorem NsC.take {w : World} {S : Nat -> Prop} : ∀ {l : List N} {cs : List Value} (k : Nat),NsC w S l cs -> NsC w S (l.take k) (cs.take (k * 5))
 | l,cs,0,h => by rw [List.take_zero,Nat.zero_mul,List.take_zero,NsC_nil]
 | [],cs,k + 1,h => by rw [NsC_nil] at h;subst h;rw [List.take_nil,List.take_nil,NsC_nil]
 | v :: l,cs,k + 1,h => by
  rw [NsC_cons] at h
  obtain ⟨c1,c2,rfl,h1,h2⟩:=h
  have h3 : c1.length = 5:=by
   obtain ⟨op,nm,n,t,k⟩:=v
   rw [NC_mk] at h1
   obtain ⟨_,_,rfl,_⟩:=h1
   rfl
  rw [List.take_succ_cons,NsC_cons]
  refine ⟨c1,c2.take (k * 5),?_,h1,NsC.take k h2⟩
  rw [show (k + 1) * 5 = c1.length + k * 5 by omega,List.take_append,List.take_of_length_le (by omega)]
  congr 2
  omega
theorem Sl.take {w : World} {S : Nat -> Prop} {A : Option Addr} {c : Nat} {l : List N} (h : Sl w S (.slice A l.length c) l) (k : Nat) (hk : k <= l.length) : Sl w S (.slice A k c) (l.take k):=by
 obtain ⟨h0,ics,h1,h2⟩:=h
 have hl : (l.take k).length = k:=by simp;omega
 refine ⟨by rw [hl];omega,ics.take (k * 5),?_,h2.take k⟩
 obtain ⟨A',c',he,q1,q2,q3,q4⟩:=h1
 injection he with e1 e2 e3
 subst e1;subst e3
 rw [hl]
 refine ⟨A,c,rfl,by omega,q2,by rw [List.length_take];omega,?_⟩
 rcases q4 with q4 | ⟨b,o,rfl,hb,hc⟩
 ·
  exact .inl (by omega)
 ·
  refine .inr ⟨b,o,rfl,hb,fun j u hj => hc j u ?_⟩
  rw [List.getElem?_take] at hj
  split at hj
  ·
   exact hj
  ·
   cases hj
namespace Sy
def branches (l : List N) : Bool:=if h : 0 < l.length then
  (if (l[l.length - 1]).op = 51 then decide ((l.take (l.length - 1)).length <= 16) && (l.take (l.length - 1)).all kCase else decide (l.length <= 16) && l.all kCase)
 else false
theorem branches_nil : branches [] = false:=rfl
theorem branches_else {l : List N} {j : Nat} (hj : j < l.length) (hl : l.length = j + 1) (h : l[j].op = 51) : branches l = (decide (j <= 16) && (l.take j).all kCase):=by
 have e : l.length - 1 = j:=by omega
 unfold branches
 rw [dif_pos (by omega)]
 simp only [e]
 rw [if_pos h,List.length_take,Nat.min_eq_left (by omega)]
theorem branches_case {l : List N} {j : Nat} (hj : j < l.length) (hl : l.length = j + 1) (h : ¬ l[j].op = 51) : branches l = (decide (l.length <= 16) && l.all kCase):=by
 have e : l.length - 1 = j:=by omega
 unfold branches
 rw [dif_pos (by omega)]
 simp only [e]
 rw [if_neg h]
end Sy
theorem branches_any (l : List N) (iv : Value) (w : World) (S : Nat -> Prop) (hG : Good w) (h : Sl w S iv l) :
  Calls Tryz.prog 152 #[iv] w fun e w' => e = .returned (.bool (Sy.branches l)) /\ Below w.heap.size w w':=by
 obtain ⟨A,c,rfl⟩:=h.form
 have hl:=h.1
 have hcap:=h.cap
 rcases Nat.eq_zero_or_pos l.length with h0 | h0
 ·
  have : l = []:=List.eq_nil_of_length_eq_zero h0
  subst this
  rw [Sy.branches_nil]
  clear h hG
  rw [show ([] : List N).length = 0 from rfl]
  go_enter Tryz.func152,Tryz.ntmps152
  go_wp2_with fail
  go_ret
  exact ⟨rfl,Below.refl _ _⟩
 obtain ⟨j,hj⟩ : ∃ j,l.length = j + 1:=⟨l.length - 1,by omega⟩
 have hjl : j < l.length:=by omega
 obtain ⟨b,o,cc,A1,c1,he,q0,q1,q2,q3,q4,hva⟩:=h.kids j hjl
 injection he with he1 he2 he3
 subst he1
 clear he2 he3 q1 q2 q3 q4 hva
 have hjc : j <= c:=by omega
 have wj : IntKind.i64.wrap (((j + 1 : Nat) : Int) - 1) = (j : Int):=by rw [wrap_small _ (by omega) (by omega)];omega
 by_cases hop : l[j].op = 51
 ·
  have HD:=hid (Sy.branches_else hjl hj hop)
  have C:=hid (all_any 179 _ Tryz.en_isCase (l.take j) _ w S hG (h.take j (by omega)) (fun u _ => case_k.ka u))
  rw [hop] at q0
  clear hop h hG
  rw [hj]
  generalize Sy.branches l = dd at HD |-
  go_enter Tryz.func152,Tryz.ntmps152
  go_wp2_with (go_at_call 59;refine C.out.mono ?_;rintro e w1 ⟨rfl,hb1⟩)
  all_goals go_ret
  all_goals first
   | exact ⟨ret_bool (by rw [HD.out];first | (simp_all;done) | (simp_all;omega) | (simp_all;intros;omega)),hb1⟩
   | exact ⟨ret_bool (by rw [HD.out];first | (simp_all;done) | (simp_all;omega) | (simp_all;intros;omega)),Below.refl _ _⟩
 ·
  have HD:=hid (Sy.branches_case hjl hj hop)
  have C:=hid (all_any 179 _ Tryz.en_isCase l _ w S hG h (fun u _ => case_k.ka u))
  have hb51 : (l[j].op == 51) = false:=by simpa using hop
  clear hop h hG
  rw [hj] at C |-
  generalize Sy.branches l = dd at HD |-
  go_enter Tryz.func152,Tryz.ntmps152
  go_wp2_with (go_at_call 59;refine C.out.mono ?_;rintro e w1 ⟨rfl,hb1⟩)
  all_goals go_ret
  all_goals first
   | exact ⟨ret_bool (by rw [HD.out];first | (simp_all;done) | (simp_all;omega) | (simp_all;intros;omega)),hb1⟩
   | exact ⟨ret_bool (by rw [HD.out];first | (simp_all;done) | (simp_all;omega) | (simp_all;intros;omega)),Below.refl _ _⟩
end Go.Proofs.YtgeppafcemeidaaGreatDoor
namespace Go.Proofs.YtgeppafcemeidaaGreatDoor
open Go.RowKit
open Sy (N NT R Ev Run Pg fx hd body opnd inf RunN EvN nd nmd)
open Tk (T)
theorem Fs.new1 {w : World} {a c : Nat} {t : TypeId} : Fs (w.alloc (.cells #[.func (.func a) #[] #[]] t)) (.slice (some ⟨w.heap.size,0,none⟩) 1 c) [a]:=Fs.new (Ks:=[a]) (by simp)
theorem Fs.new2 {w : World} {a b c : Nat} {t : TypeId} : Fs (w.alloc (.cells #[.func (.func a) #[] #[],.func (.func b) #[] #[]] t)) (.slice (some ⟨w.heap.size,0,none⟩) 2 c) [a,b]:=Fs.new (Ks:=[a,b]) (by simp)
theorem Fs.new3 {w : World} {a b d c : Nat} {t : TypeId} : Fs (w.alloc (.cells #[.func (.func a) #[] #[],.func (.func b) #[] #[],.func (.func d) #[] #[]] t)) (.slice (some ⟨w.heap.size,0,none⟩) 3 c) [a,b,d]:=Fs.new (Ks:=[a,b,d]) (by simp)
namespace Sy
def stmtKids (op : Int) (l : List N) : Bool :=
 if op ∈ [40,41,45,52] then are l [kExpr]
 else if op ∈ [42] then are l [kExpr,kBlock] || are l [kExpr,kBlock,kAlt]
 else if op ∈ [43,50] then are l [kExpr,kBlock]
 else if op ∈ [44] then are l [] || are l [kExpr]
 else if op ∈ [46] then are l [kBlock,kBlock]
 else if op ∈ [47,51] then are l [kBlock]
 else if op ∈ [48] then l.all kExpr
 else if op ∈ [49] then branches l
 else if op ∈ [53] then l.all kStmt
 else false
end Sy
theorem sk_g1 (op : Int) (hop : op = 40 \/ op = 41 \/ op = 45 \/ op = 52) (l : List N) (iv : Value) (w : World) (S : Nat -> Prop) (hG : Good w) (h : Sl w S iv l) :
  Calls Tryz.prog 107 #[.int .i64 op,iv] w fun e w' => e = .returned (.bool (Sy.stmtKids op l)) /\ Below w.heap.size w w':=by
 have HD : Hid (Sy.stmtKids op l = (Sy.are l [Sy.kExpr])):=by rcases hop with rfl | rfl | rfl | rfl <;> rfl
 generalize Sy.stmtKids op l = dd at HD |-
 obtain ⟨A,c,rfl⟩:=h.form
 have hl:=h.1
 have C0:=hid (are_k (Ks:=[36]) (ps:=[Sy.kExpr]) ⟨⟨Tryz.en_isExpr,expr_k⟩,trivial⟩ hG h)
 clear h hG
 rcases hop with rfl | rfl | rfl | rfl
 all_goals
  go_enter Tryz.func107,Tryz.ntmps107
  go_wp2_with (first
   | (go_at_call 102;(with_reducible refine (C0.out _ _ (bl _) Fs.new1).mono ?_);rintro e w1 ⟨rfl,hb1⟩;have HB1:=hid (bstep (bl _) hb1);clear hb1))
  all_goals go_ret
  all_goals exact ⟨ret_bool (by first | exact HD.out.symm | (rw [HD.out];simp_all;done)),HB1.out⟩
theorem sk_42 (l : List N) (iv : Value) (w : World) (S : Nat -> Prop) (hG : Good w) (h : Sl w S iv l) :
  Calls Tryz.prog 107 #[.int .i64 42,iv] w fun e w' => e = .returned (.bool (Sy.stmtKids 42 l)) /\ Below w.heap.size w w':=by
 have HD : Hid (Sy.stmtKids 42 l = (Sy.are l [Sy.kExpr,Sy.kBlock] || Sy.are l [Sy.kExpr,Sy.kBlock,Sy.kAlt])):=rfl
 generalize Sy.stmtKids 42 l = dd at HD |-
 obtain ⟨A,c,rfl⟩:=h.form
 have hl:=h.1
 have C0:=hid (are_k (Ks:=[36,105]) (ps:=[Sy.kExpr,Sy.kBlock]) ⟨⟨Tryz.en_isExpr,expr_k⟩,⟨⟨Tryz.en_isBlock,block_k⟩,trivial⟩⟩ hG h)
 have C1:=hid (are_k (Ks:=[36,105,151]) (ps:=[Sy.kExpr,Sy.kBlock,Sy.kAlt]) ⟨⟨Tryz.en_isExpr,expr_k⟩,⟨⟨Tryz.en_isBlock,block_k⟩,⟨⟨Tryz.en_isAlternative,alt_k⟩,trivial⟩⟩⟩ hG h)
 clear h hG
 go_enter Tryz.func107,Tryz.ntmps107
 go_wp2_with (first
  | (go_at_call 102;(with_reducible refine (C0.out _ _ (bl _) Fs.new2).mono ?_);rintro e w1 ⟨rfl,hb1⟩;have HB1:=hid (bstep (bl _) hb1);clear hb1)
  | (go_at_call 102;(with_reducible refine (C1.out _ _ (bstep HB1.out (bl _)) Fs.new3).mono ?_);rintro e w2 ⟨rfl,hb2⟩;have HB1:=hid (bstep (bstep HB1.out (bl _)) hb2);clear hb2))
 all_goals go_ret
 all_goals exact ⟨ret_bool (by first | exact HD.out.symm | (rw [HD.out];simp_all;done)),HB1.out⟩
theorem sk_g2 (op : Int) (hop : op = 43 \/ op = 50) (l : List N) (iv : Value) (w : World) (S : Nat -> Prop) (hG : Good w) (h : Sl w S iv l) :
  Calls Tryz.prog 107 #[.int .i64 op,iv] w fun e w' => e = .returned (.bool (Sy.stmtKids op l)) /\ Below w.heap.size w w':=by
 have HD : Hid (Sy.stmtKids op l = (Sy.are l [Sy.kExpr,Sy.kBlock])):=by rcases hop with rfl | rfl <;> rfl
 generalize Sy.stmtKids op l = dd at HD |-
 obtain ⟨A,c,rfl⟩:=h.form
 have hl:=h.1
 have C0:=hid (are_k (Ks:=[36,105]) (ps:=[Sy.kExpr,Sy.kBlock]) ⟨⟨Tryz.en_isExpr,expr_k⟩,⟨⟨Tryz.en_isBlock,block_k⟩,trivial⟩⟩ hG h)
 clear h hG
 rcases hop with rfl | rfl
 all_goals
  go_enter Tryz.func107,Tryz.ntmps107
  go_wp2_with (first
   | (go_at_call 102;(with_reducible refine (C0.out _ _ (bl _) Fs.new2).mono ?_);rintro e w1 ⟨rfl,hb1⟩;have HB1:=hid (bstep (bl _) hb1);clear hb1))
  all_goals go_ret
  all_goals exact ⟨ret_bool (by first | exact HD.out.symm | (rw [HD.out];simp_all;done)),HB1.out⟩
theorem sk_44 (l : List N) (iv : Value) (w : World) (S : Nat -> Prop) (hG : Good w) (h : Sl w S iv l) :
  Calls Tryz.prog 107 #[.int .i64 44,iv] w fun e w' => e = .returned (.bool (Sy.stmtKids 44 l)) /\ Below w.heap.size w w':=by
 have HD : Hid (Sy.stmtKids 44 l = (Sy.are l [] || Sy.are l [Sy.kExpr])):=rfl
 generalize Sy.stmtKids 44 l = dd at HD |-
 obtain ⟨A,c,rfl⟩:=h.form
 have hl:=h.1
 have C0:=hid (are_k (Ks:=[]) (ps:=[]) trivial hG h)
 have C1:=hid (are_k (Ks:=[36]) (ps:=[Sy.kExpr]) ⟨⟨Tryz.en_isExpr,expr_k⟩,trivial⟩ hG h)
 clear h hG
 go_enter Tryz.func107,Tryz.ntmps107
 go_wp2_with (first
  | (go_at_call 102;(with_reducible refine (C0.out _ _ (Below.refl _ _) (Fs.none_)).mono ?_);rintro e w1 ⟨rfl,hb1⟩;have HB1:=hid (bstep (Below.refl _ _) hb1);clear hb1)
  | (go_at_call 102;(with_reducible refine (C1.out _ _ (bstep HB1.out (bl _)) Fs.new1).mono ?_);rintro e w2 ⟨rfl,hb2⟩;have HB1:=hid (bstep (bstep HB1.out (bl _)) hb2);clear hb2))
 all_goals go_ret
 all_goals exact ⟨ret_bool (by first | exact HD.out.symm | (rw [HD.out];simp_all;done)),HB1.out⟩
theorem sk_46 (l : List N) (iv : Value) (w : World) (S : Nat -> Prop) (hG : Good w) (h : Sl w S iv l) :
  Calls Tryz.prog 107 #[.int .i64 46,iv] w fun e w' => e = .returned (.bool (Sy.stmtKids 46 l)) /\ Below w.heap.size w w':=by
 have HD : Hid (Sy.stmtKids 46 l = (Sy.are l [Sy.kBlock,Sy.kBlock])):=rfl
 generalize Sy.stmtKids 46 l = dd at HD |-
 obtain ⟨A,c,rfl⟩:=h.form
 have hl:=h.1
 have C0:=hid (are_k (Ks:=[105,105]) (ps:=[Sy.kBlock,Sy.kBlock]) ⟨⟨Tryz.en_isBlock,block_k⟩,⟨⟨Tryz.en_isBlock,block_k⟩,trivial⟩⟩ hG h)
 clear h hG
 go_enter Tryz.func107,Tryz.ntmps107
 go_wp2_with (first
  | (go_at_call 102;(with_reducible refine (C0.out _ _ (bl _) Fs.new2).mono ?_);rintro e w1 ⟨rfl,hb1⟩;have HB1:=hid (bstep (bl _) hb1);clear hb1))
 all_goals go_ret
 all_goals exact ⟨ret_bool (by first | exact HD.out.symm | (rw [HD.out];simp_all;done)),HB1.out⟩
theorem sk_g3 (op : Int) (hop : op = 47 \/ op = 51) (l : List N) (iv : Value) (w : World) (S : Nat -> Prop) (hG : Good w) (h : Sl w S iv l) :
  Calls Tryz.prog 107 #[.int .i64 op,iv] w fun e w' => e = .returned (.bool (Sy.stmtKids op l)) /\ Below w.heap.size w w':=by
 have HD : Hid (Sy.stmtKids op l = (Sy.are l [Sy.kBlock])):=by rcases hop with rfl | rfl <;> rfl
 generalize Sy.stmtKids op l = dd at HD |-
 obtain ⟨A,c,rfl⟩:=h.form
 have hl:=h.1
 have C0:=hid (are_k (Ks:=[105]) (ps:=[Sy.kBlock]) ⟨⟨Tryz.en_isBlock,block_k⟩,trivial⟩ hG h)
 clear h hG
 rcases hop with rfl | rfl
 all_goals
  go_enter Tryz.func107,Tryz.ntmps107
  go_wp2_with (first
   | (go_at_call 102;(with_reducible refine (C0.out _ _ (bl _) Fs.new1).mono ?_);rintro e w1 ⟨rfl,hb1⟩;have HB1:=hid (bstep (bl _) hb1);clear hb1))
  all_goals go_ret
  all_goals exact ⟨ret_bool (by first | exact HD.out.symm | (rw [HD.out];simp_all;done)),HB1.out⟩
theorem sk_48 (l : List N) (iv : Value) (w : World) (S : Nat -> Prop) (hG : Good w) (h : Sl w S iv l) :
  Calls Tryz.prog 107 #[.int .i64 48,iv] w fun e w' => e = .returned (.bool (Sy.stmtKids 48 l)) /\ Below w.heap.size w w':=by
 have HD : Hid (Sy.stmtKids 48 l = (l.all Sy.kExpr)):=rfl
 generalize Sy.stmtKids 48 l = dd at HD |-
 obtain ⟨A,c,rfl⟩:=h.form
 have hl:=h.1
 have C:=hid (all_any 36 _ Tryz.en_isExpr l _ w S hG h (fun u _ => expr_k.ka u))
 clear h hG
 go_enter Tryz.func107,Tryz.ntmps107
 go_wp2_with (go_at_call 59;refine C.out.mono ?_;rintro e w1 ⟨rfl,hb1⟩;have HB1:=hid hb1;clear hb1)
 all_goals go_ret
 all_goals exact ⟨ret_bool (by first | exact HD.out.symm | (rw [HD.out];simp_all;done)),HB1.out⟩
theorem sk_49 (l : List N) (iv : Value) (w : World) (S : Nat -> Prop) (hG : Good w) (h : Sl w S iv l) :
  Calls Tryz.prog 107 #[.int .i64 49,iv] w fun e w' => e = .returned (.bool (Sy.stmtKids 49 l)) /\ Below w.heap.size w w':=by
 have HD : Hid (Sy.stmtKids 49 l = (Sy.branches l)):=rfl
 generalize Sy.stmtKids 49 l = dd at HD |-
 obtain ⟨A,c,rfl⟩:=h.form
 have hl:=h.1
 have C:=hid (branches_any l _ w S hG h)
 clear h hG
 go_enter Tryz.func107,Tryz.ntmps107
 go_wp2_with (go_at_call 152;refine C.out.mono ?_;rintro e w1 ⟨rfl,hb1⟩;have HB1:=hid hb1;clear hb1)
 all_goals go_ret
 all_goals exact ⟨ret_bool (by first | exact HD.out.symm | (rw [HD.out];simp_all;done)),HB1.out⟩
theorem sk_53 (l : List N) (iv : Value) (w : World) (S : Nat -> Prop) (hG : Good w) (h : Sl w S iv l) :
  Calls Tryz.prog 107 #[.int .i64 53,iv] w fun e w' => e = .returned (.bool (Sy.stmtKids 53 l)) /\ Below w.heap.size w w':=by
 have HD : Hid (Sy.stmtKids 53 l = (l.all Sy.kStmt)):=rfl
 generalize Sy.stmtKids 53 l = dd at HD |-
 obtain ⟨A,c,rfl⟩:=h.form
 have hl:=h.1
 have C:=hid (all_any 153 _ Tryz.en_isStatement l _ w S hG h (fun u _ => stmt_k.ka u))
 clear h hG
 go_enter Tryz.func107,Tryz.ntmps107
 go_wp2_with (go_at_call 59;refine C.out.mono ?_;rintro e w1 ⟨rfl,hb1⟩;have HB1:=hid hb1;clear hb1)
 all_goals go_ret
 all_goals exact ⟨ret_bool (by first | exact HD.out.symm | (rw [HD.out];simp_all;done)),HB1.out⟩
theorem sk_else (op : Int) (hop : op < 40 \/ 53 < op) (l : List N) (iv : Value) (w : World) (S : Nat -> Prop) (h : Sl w S iv l) :
  Calls Tryz.prog 107 #[.int .i64 op,iv] w fun e w' => e = .returned (.bool (Sy.stmtKids op l)) /\ Below w.heap.size w w':=by
 have HD : Hid (Sy.stmtKids op l = false):=by
  show _ = _
  unfold Sy.stmtKids
  simp only [List.mem_cons,List.not_mem_nil,or_false]
  iterate 9 (rw [if_neg (by omega)])
 generalize Sy.stmtKids op l = dd at HD |-
 obtain ⟨A,c,rfl⟩:=h.form
 clear h
 have c40 : (op == 40) = false:=by simp;omega
 have c41 : (op == 41) = false:=by simp;omega
 have c42 : (op == 42) = false:=by simp;omega
 have c43 : (op == 43) = false:=by simp;omega
 have c44 : (op == 44) = false:=by simp;omega
 have c45 : (op == 45) = false:=by simp;omega
 have c46 : (op == 46) = false:=by simp;omega
 have c47 : (op == 47) = false:=by simp;omega
 have c48 : (op == 48) = false:=by simp;omega
 have c49 : (op == 49) = false:=by simp;omega
 have c50 : (op == 50) = false:=by simp;omega
 have c51 : (op == 51) = false:=by simp;omega
 have c52 : (op == 52) = false:=by simp;omega
 have c53 : (op == 53) = false:=by simp;omega
 clear hop
 go_enter Tryz.func107,Tryz.ntmps107
 go_wp2_with fail
 go_ret
 exact ⟨ret_bool HD.out.symm,Below.refl _ _⟩
theorem sk_any (op : Int) (l : List N) (iv : Value) (w : World) (S : Nat -> Prop) (hG : Good w) (h : Sl w S iv l) :
  Calls Tryz.prog 107 #[.int .i64 op,iv] w fun e w' => e = .returned (.bool (Sy.stmtKids op l)) /\ Below w.heap.size w w':=by
 by_cases hg1 : op = 40 \/ op = 41 \/ op = 45 \/ op = 52
 ·
  exact sk_g1 op hg1 l iv w S hG h
 by_cases h42 : op = 42
 ·
  subst h42;exact sk_42 l iv w S hG h
 by_cases hg2 : op = 43 \/ op = 50
 ·
  exact sk_g2 op hg2 l iv w S hG h
 by_cases h44 : op = 44
 ·
  subst h44;exact sk_44 l iv w S hG h
 by_cases h46 : op = 46
 ·
  subst h46;exact sk_46 l iv w S hG h
 by_cases hg3 : op = 47 \/ op = 51
 ·
  exact sk_g3 op hg3 l iv w S hG h
 by_cases h48 : op = 48
 ·
  subst h48;exact sk_48 l iv w S hG h
 by_cases h49 : op = 49
 ·
  subst h49;exact sk_49 l iv w S hG h
 by_cases h53 : op = 53
 ·
  subst h53;exact sk_53 l iv w S hG h
 exact sk_else op (by omega) l iv w S h
end Go.Proofs.YtgeppafcemeidaaGreatDoor
namespace Go.Proofs.YtgeppafcemeidaaGreatDoor
open Go.RowKit
open Sy (N NT R Ev Run Pg fx hd body opnd inf RunN EvN nd nmd)
open Tk (T)
theorem Fs.at1 {w : World} {a c m : Nat} {t : TypeId} (h : w.heap.size = m) : Fs (w.alloc (.cells #[.func (.func a) #[] #[]] t)) (.slice (some ⟨m,0,none⟩) 1 c) [a]:=by subst h;exact Fs.new1
namespace Sy
def paramsBlock (l : List N) : Bool:=if h : 0 < l.length then (l.take (l.length - 1)).all kParam && kBlock l[l.length - 1] else false
theorem paramsBlock_at {l : List N} {j : Nat} (hj : j < l.length) (hl : l.length = j + 1) : paramsBlock l = ((l.take j).all kParam && kBlock l[j]):=by
 have e : l.length - 1 = j:=by omega
 unfold paramsBlock
 rw [dif_pos (by omega)]
 simp only [e]
def kidsOk (op : Int) (l : List N) : Bool :=
 if op = 60 then l.all kDecl
 else if op = 61 then are l [kConst]
 else if op = 62 then paramsBlock l
 else if op ∈ [63,64] then are l [kBlock]
 else if op = 65 then are l [kBlock] || are l [kBlock,kBlock]
 else exprKids op l || stmtKids op l
end Sy
theorem rk_60 (nm : List UInt8) (n : Int) (t : List UInt8) (l : List N) (iv : Value) (w : World) (S : Nat -> Prop) (hG : Good w) (h : Sl w S iv l) :
  Calls Tryz.prog 58 #[.agg #[.int .i64 60,.string ⟨nm.toArray⟩,.int .i64 n,.string ⟨t.toArray⟩,iv]] w fun e w' => e = .returned (.bool (Sy.kidsOk 60 l)) /\ Below w.heap.size w w':=by
 have HD : Hid (Sy.kidsOk 60 l = (l.all Sy.kDecl)):=rfl
 generalize Sy.kidsOk 60 l = dd at HD |-
 obtain ⟨A,c,rfl⟩:=h.form
 have hl:=h.1
 have C:=hid (fun W (hW : Below w.heap.size w W) => all_any 101 _ Tryz.en_isDeclaration l _ W S (hG.below hW) (h.below hW) (fun u _ => decl_k.ka u))
 clear h hG
 go_enter Tryz.func58,Tryz.ntmps58
 go_wp2_with (go_at_call 59;(with_reducible refine (C.out _ (bl _)).mono ?_);rintro e w1 ⟨rfl,hb1⟩;have HB1:=hid (bstep (bl _) hb1);clear hb1)
 all_goals go_ret
 all_goals exact ⟨ret_bool (by first | exact HD.out.symm | (rw [HD.out];simp_all;done)),HB1.out⟩
theorem rk_61 (nm : List UInt8) (n : Int) (t : List UInt8) (l : List N) (iv : Value) (w : World) (S : Nat -> Prop) (hG : Good w) (h : Sl w S iv l) :
  Calls Tryz.prog 58 #[.agg #[.int .i64 61,.string ⟨nm.toArray⟩,.int .i64 n,.string ⟨t.toArray⟩,iv]] w fun e w' => e = .returned (.bool (Sy.kidsOk 61 l)) /\ Below w.heap.size w w':=by
 have HD : Hid (Sy.kidsOk 61 l = (Sy.are l [Sy.kConst])):=rfl
 generalize Sy.kidsOk 61 l = dd at HD |-
 obtain ⟨A,c,rfl⟩:=h.form
 have hl:=h.1
 have C:=hid (are_k (Ks:=[103]) (ps:=[Sy.kConst]) ⟨⟨Tryz.en_isConstant,const_k⟩,trivial⟩ hG h)
 clear h hG
 go_enter Tryz.func58,Tryz.ntmps58
 go_wp2_with (go_at_call 102;(with_reducible refine (C.out _ _ (bstep (bl _) (bl _)) (Fs.at1 (by simp))).mono ?_);rintro e w1 ⟨rfl,hb1⟩;have HB1:=hid (bstep (bstep (bl _) (bl _)) hb1);clear hb1)
 all_goals go_ret
 all_goals exact ⟨ret_bool (by first | exact HD.out.symm | (rw [HD.out];simp_all;done)),HB1.out⟩
theorem rk_63 (nm : List UInt8) (n : Int) (t : List UInt8) (l : List N) (iv : Value) (w : World) (S : Nat -> Prop) (hG : Good w) (h : Sl w S iv l) :
  Calls Tryz.prog 58 #[.agg #[.int .i64 63,.string ⟨nm.toArray⟩,.int .i64 n,.string ⟨t.toArray⟩,iv]] w fun e w' => e = .returned (.bool (Sy.kidsOk 63 l)) /\ Below w.heap.size w w':=by
 have HD : Hid (Sy.kidsOk 63 l = (Sy.are l [Sy.kBlock])):=rfl
 generalize Sy.kidsOk 63 l = dd at HD |-
 obtain ⟨A,c,rfl⟩:=h.form
 have hl:=h.1
 have C:=hid (are_k (Ks:=[105]) (ps:=[Sy.kBlock]) ⟨⟨Tryz.en_isBlock,block_k⟩,trivial⟩ hG h)
 clear h hG
 go_enter Tryz.func58,Tryz.ntmps58
 go_wp2_with (go_at_call 102;(with_reducible refine (C.out _ _ (bstep (bl _) (bl _)) (Fs.at1 (by simp))).mono ?_);rintro e w1 ⟨rfl,hb1⟩;have HB1:=hid (bstep (bstep (bl _) (bl _)) hb1);clear hb1)
 all_goals go_ret
 all_goals exact ⟨ret_bool (by first | exact HD.out.symm | (rw [HD.out];simp_all;done)),HB1.out⟩
theorem rk_64 (nm : List UInt8) (n : Int) (t : List UInt8) (l : List N) (iv : Value) (w : World) (S : Nat -> Prop) (hG : Good w) (h : Sl w S iv l) :
  Calls Tryz.prog 58 #[.agg #[.int .i64 64,.string ⟨nm.toArray⟩,.int .i64 n,.string ⟨t.toArray⟩,iv]] w fun e w' => e = .returned (.bool (Sy.kidsOk 64 l)) /\ Below w.heap.size w w':=by
 have HD : Hid (Sy.kidsOk 64 l = (Sy.are l [Sy.kBlock])):=rfl
 generalize Sy.kidsOk 64 l = dd at HD |-
 obtain ⟨A,c,rfl⟩:=h.form
 have hl:=h.1
 have C:=hid (are_k (Ks:=[105]) (ps:=[Sy.kBlock]) ⟨⟨Tryz.en_isBlock,block_k⟩,trivial⟩ hG h)
 clear h hG
 go_enter Tryz.func58,Tryz.ntmps58
 go_wp2_with (go_at_call 102;(with_reducible refine (C.out _ _ (bstep (bl _) (bl _)) (Fs.at1 (by simp))).mono ?_);rintro e w1 ⟨rfl,hb1⟩;have HB1:=hid (bstep (bstep (bl _) (bl _)) hb1);clear hb1)
 all_goals go_ret
 all_goals exact ⟨ret_bool (by first | exact HD.out.symm | (rw [HD.out];simp_all;done)),HB1.out⟩
theorem rk_65 (nm : List UInt8) (n : Int) (t : List UInt8) (l : List N) (iv : Value) (w : World) (S : Nat -> Prop) (hG : Good w) (h : Sl w S iv l) :
  Calls Tryz.prog 58 #[.agg #[.int .i64 65,.string ⟨nm.toArray⟩,.int .i64 n,.string ⟨t.toArray⟩,iv]] w fun e w' => e = .returned (.bool (Sy.kidsOk 65 l)) /\ Below w.heap.size w w':=by
 have HD : Hid (Sy.kidsOk 65 l = (Sy.are l [Sy.kBlock] || Sy.are l [Sy.kBlock,Sy.kBlock])):=rfl
 generalize Sy.kidsOk 65 l = dd at HD |-
 obtain ⟨A,c,rfl⟩:=h.form
 have hl:=h.1
 have C0:=hid (are_k (Ks:=[105]) (ps:=[Sy.kBlock]) ⟨⟨Tryz.en_isBlock,block_k⟩,trivial⟩ hG h)
 have C1:=hid (are_k (Ks:=[105,105]) (ps:=[Sy.kBlock,Sy.kBlock]) ⟨⟨Tryz.en_isBlock,block_k⟩,⟨⟨Tryz.en_isBlock,block_k⟩,trivial⟩⟩ hG h)
 clear h hG
 go_enter Tryz.func58,Tryz.ntmps58
 go_wp2_with (first
  | (go_at_call 102;(with_reducible refine (C0.out _ _ (bstep (bl _) (bl _)) (Fs.at1 (by simp))).mono ?_);rintro e w1 ⟨rfl,hb1⟩;have HB1:=hid (bstep (bstep (bl _) (bl _)) hb1);clear hb1)
  | (go_at_call 102;(with_reducible refine (C1.out _ _ (bstep HB1.out (bl _)) Fs.new2).mono ?_);rintro e w2 ⟨rfl,hb2⟩;have HB1:=hid (bstep (bstep HB1.out (bl _)) hb2);clear hb2))
 all_goals go_ret
 all_goals exact ⟨ret_bool (by first | exact HD.out.symm | (rw [HD.out];simp_all;done)),HB1.out⟩
theorem rk_62 (nm : List UInt8) (n : Int) (t : List UInt8) (l : List N) (iv : Value) (w : World) (S : Nat -> Prop) (hG : Good w) (h : Sl w S iv l) :
  Calls Tryz.prog 58 #[.agg #[.int .i64 62,.string ⟨nm.toArray⟩,.int .i64 n,.string ⟨t.toArray⟩,iv]] w fun e w' => e = .returned (.bool (Sy.kidsOk 62 l)) /\ Below w.heap.size w w':=by
 have HG:=hid hG
 have H:=hid h
 obtain ⟨A,c,rfl⟩:=h.form
 have hl:=h.1
 have hcap:=h.cap
 rcases Nat.eq_zero_or_pos l.length with h0 | h0
 ·
  have : l = []:=List.eq_nil_of_length_eq_zero h0
  subst this
  rw [show Sy.kidsOk 62 [] = false from rfl]
  clear h hG
  rw [show ([] : List N).length = 0 from rfl]
  go_enter Tryz.func58,Tryz.ntmps58
  go_wp2_with fail
  go_ret
  exact ⟨rfl,bl _⟩
 obtain ⟨j,hj⟩ : ∃ j,l.length = j + 1:=⟨l.length - 1,by omega⟩
 have hjl : j < l.length:=by omega
 have hjc : j <= c:=by omega
 have wj : IntKind.i64.wrap (((j + 1 : Nat) : Int) - 1) = (j : Int):=by rw [wrap_small _ (by omega) (by omega)];omega
 have HD : Hid (Sy.kidsOk 62 l = ((l.take j).all Sy.kParam && Sy.kBlock l[j])):=Sy.paramsBlock_at hjl hj
 generalize Sy.kidsOk 62 l = dd at HD |-
 obtain ⟨b,o,cc,A1,c1,he,q0,q1,q2,q3,q4,hva⟩:=h.kids j hjl
 injection he with he1 he2 he3
 subst he1
 clear he2 he3 hva
 have C:=hid (fun W (hW : Below w.heap.size w W) => all_any 104 _ Tryz.en_isParameter (l.take j) _ W S (hG.below hW) ((h.take j (by omega)).below hW) (fun u _ => parm_k.ka u))
 have C1 : Hid (∀ W,Below w.heap.size w W -> Calls Tryz.prog 105 #[.agg #[.int .i64 l[j].op,.string ⟨l[j].nm.toArray⟩,.int .i64 l[j].n,.string ⟨l[j].t.toArray⟩,.slice A1 l[j].l.length c1]] W fun e w' => e = .returned (.bool (Sy.kBlock l[j])) /\ Below W.heap.size W w'):=fun W hW => by
  obtain ⟨b',o',cc',A1',c1',he',q0',q1',q2',q3',q4',hva'⟩:=(h.below hW).kids j hjl
  injection he' with he1' he2' he3'
  injection he1' with he1'
  obtain ⟨rfl,rfl⟩ : b = b' /\ o = o':=by injection he1' with x y;exact ⟨x,y⟩
  have:=keepB (S:=fun _ => True) hW _ _ trivial q4
  rw [q4'] at this
  injection this with this
  rw [<- this]
  exact block_k _ _ W S hva'
 clear h hG
 have K:=hid (And.intro q0 (And.intro q1 (And.intro q2 (And.intro q3 q4))))
 clear q0 q1 q2 q3 q4
 generalize (l.take j).all Sy.kParam = ab at HD C
 generalize Sy.kBlock l[j] = bb at HD C1
 rw [hj]
 go_enter Tryz.func58,Tryz.ntmps58
 go_wp2_with (first
  | (go_at_call 59;(with_reducible refine (C.out _ (bl _)).mono ?_);rintro e w1 ⟨rfl,hb1⟩;have HB1:=hid (bstep (bl _) hb1);clear hb1;obtain ⟨q0,q1,q2,q3,q4⟩:=K.out;replace q0:=keepB (S:=fun _ => True) HB1.out _ _ trivial q0;replace q1:=keepB (S:=fun _ => True) HB1.out _ _ trivial q1;replace q2:=keepB (S:=fun _ => True) HB1.out _ _ trivial q2;replace q3:=keepB (S:=fun _ => True) HB1.out _ _ trivial q3;replace q4:=keepB (S:=fun _ => True) HB1.out _ _ trivial q4)
  | (go_at_call 105;(with_reducible refine (C1.out _ HB1.out).mono ?_);rintro e w2 ⟨rfl,hb2⟩;have HB1:=hid (bstep HB1.out hb2);clear hb2))
 all_goals go_ret
 all_goals exact ⟨ret_bool (by first | exact HD.out.symm | (rw [HD.out];simp_all;done)),HB1.out⟩
theorem rk_else (op : Int) (hop : op < 60 \/ 65 < op) (nm : List UInt8) (n : Int) (t : List UInt8) (l : List N) (iv : Value) (w : World) (S : Nat -> Prop) (hG : Good w) (h : Sl w S iv l) :
  Calls Tryz.prog 58 #[.agg #[.int .i64 op,.string ⟨nm.toArray⟩,.int .i64 n,.string ⟨t.toArray⟩,iv]] w fun e w' => e = .returned (.bool (Sy.kidsOk op l)) /\ Below w.heap.size w w':=by
 have HD : Hid (Sy.kidsOk op l = (Sy.exprKids op l || Sy.stmtKids op l)):=by
  show _ = _
  unfold Sy.kidsOk
  simp only [List.mem_cons,List.not_mem_nil,or_false]
  iterate 5 (rw [if_neg (by omega)])
 generalize Sy.kidsOk op l = dd at HD |-
 obtain ⟨A,c,rfl⟩:=h.form
 have C0:=hid (fun W (hW : Below w.heap.size w W) => xk_any op l _ W S (hG.below hW) (h.below hW))
 have C1:=hid (fun W (hW : Below w.heap.size w W) => sk_any op l _ W S (hG.below hW) (h.below hW))
 clear h hG
 have c60 : (op == 60) = false:=by simp;omega
 have c61 : (op == 61) = false:=by simp;omega
 have c62 : (op == 62) = false:=by simp;omega
 have c63 : (op == 63) = false:=by simp;omega
 have c64 : (op == 64) = false:=by simp;omega
 have c65 : (op == 65) = false:=by simp;omega
 clear hop
 go_enter Tryz.func58,Tryz.ntmps58
 go_wp2_with (first
  | (go_at_call 106;(with_reducible refine (C0.out _ (bl _)).mono ?_);rintro e w1 ⟨rfl,hb1⟩;have q0:=((Bx.refl (w:=w) (cs:=#[.int .i64 op,.string ⟨nm.toArray⟩,.int .i64 n,.string ⟨t.toArray⟩,.slice A l.length c])).step hb1).cell 0;simp only [List.getElem?_toArray,List.getElem?_cons_zero] at q0;have HB1:=hid (bstep (bl _) hb1);clear hb1)
  | (go_at_call 107;(with_reducible refine (C1.out _ HB1.out).mono ?_);rintro e w2 ⟨rfl,hb2⟩;have HB1:=hid (bstep HB1.out hb2);clear hb2))
 all_goals go_ret
 all_goals exact ⟨ret_bool (by first | exact HD.out.symm | (rw [HD.out];simp_all;done)),HB1.out⟩
theorem rk_any (v : N) (a : Value) (w : World) (S : Nat -> Prop) (hG : Good w) (h : NA w S a v) :
  Calls Tryz.prog 58 #[a] w fun e w' => e = .returned (.bool (Sy.kidsOk v.op v.l)) /\ Below w.heap.size w w':=by
 match v with
 | .mk op nm n t l =>
 obtain ⟨A,c,xs,rfl,ho,hl,hr,hvs⟩:=h.open2
 have hs : Sl w S (.slice A l.length c) l:=⟨by have:=ho.2.2.2.2.2.2;omega,xs,hr,hvs⟩
 show Calls _ _ _ _ (fun e w' => e = .returned (.bool (Sy.kidsOk op l)) /\ _)
 by_cases h60 : op = 60
 ·
  subst h60;exact rk_60 nm n t l _ w S hG hs
 by_cases h61 : op = 61
 ·
  subst h61;exact rk_61 nm n t l _ w S hG hs
 by_cases h62 : op = 62
 ·
  subst h62;exact rk_62 nm n t l _ w S hG hs
 by_cases h63 : op = 63
 ·
  subst h63;exact rk_63 nm n t l _ w S hG hs
 by_cases h64 : op = 64
 ·
  subst h64;exact rk_64 nm n t l _ w S hG hs
 by_cases h65 : op = 65
 ·
  subst h65;exact rk_65 nm n t l _ w S hG hs
 exact rk_else op (by omega) nm n t l _ w S hG hs
end Go.Proofs.YtgeppafcemeidaaGreatDoor
namespace Go.Proofs.YtgeppafcemeidaaGreatDoor
open Go.RowKit
open Sy (N NT R Ev Run Pg fx hd body opnd inf RunN EvN nd nmd)
open Tk (T)
def Ct (w : World) (P : Nat) (k : Nat) : Prop:=w.heap[P]? = some (.cells #[.int .i64 (k : Int)] 3 (0,0))
theorem Ct.cell {w : World} {P k : Nat} (h : Ct w P k) : w.cell? ⟨P,0,none⟩ = some (.int .i64 (k : Int)):=by
 rw [cell_of_row w P 0 _ 3 (0,0) h];rfl
theorem Ct.free {w : World} {P k : Nat} (h : Ct w P k) : w.frozen? ⟨P,0,none⟩ = false:=frozen_of_row w P 0 _ 3 h
theorem Ct.lt {w : World} {P k : Nat} (h : Ct w P k) : P < w.heap.size:=(Array.getElem?_eq_some_iff.1 h).1
theorem Ct.below {w w' : World} {P k : Nat} (h : Ct w P k) (hb : Below w.heap.size w w') : Ct w' P k:=(hb.block _ h.lt).trans h
theorem Ct.set {w : World} {P k j : Nat} (h : Ct w P k) : Ct (w.setCell ⟨P,0,none⟩ (.int .i64 (j : Int))) P j:=heap_set (i:=0) (u:=.int .i64 (j : Int)) h
theorem Ct.inc {w : World} {P k : Nat} (h : Ct w P k) : Ct (w.setCell ⟨P,0,none⟩ (.int .i64 ((k : Int) + 1))) P (k + 1):=h.set (j:=k + 1)
theorem Sl.ch {w w' : World} {S : Nat -> Prop} {iv : Value} {l : List N} {P : Nat} (h : Sl w S iv l) (c : Ch P w w') (hS : ¬ S P) : Sl w' S iv l:=by
 obtain ⟨h0,ics,h1,h2⟩:=h
 exact ⟨h0,ics,h1.keep (fun _ hs _ => hs) (keepCh c hS) (by omega),NsC.keep (fun _ hs _ => hs) (keepCh c hS) h2⟩
namespace Sy
def fit (v : N) (d c : Nat) : Bool:=decide (v.size + c <= 4000 /\ v.depth + d <= 41)
def fitAt (l : List N) (i d c : Nat) : Prop:=1 + N.sizeL (l.take i) + c <= 4000 /\ N.depthL (l.take i) + d + 1 <= 41
theorem fit_deep {v : N} {d c : Nat} (h : 40 < d) : fit v d c = false:=by
 have : 0 < v.depth:=by obtain ⟨op,nm,n,t,l⟩:=v;rw [N.depth_mk];omega
 unfold fit;exact decide_eq_false (by omega)
theorem fit_big {v : N} {d c : Nat} (h : 4000 < c + 1) : fit v d c = false:=by
 have:=v.size_pos;unfold fit;exact decide_eq_false (by omega)
theorem fitAt_zero {l : List N} {d c : Nat} (h : d <= 40) (h' : c < 4000) : fitAt l 0 d c:=by
 unfold fitAt;simp only [List.take_zero,N.sizeL_nil,N.depthL_nil];omega
theorem depthL_take (l : List N) (i : Nat) : N.depthL (l.take i) <= N.depthL l:=by
 have:=N.depthL_app (l.take i) (l.drop i)
 rw [List.take_append_drop] at this
 omega
theorem fit_no {op n : Int} {nm t : List UInt8} {l : List N} {d c i : Nat} (hi : i < l.length) (h : fitAt l i d c) (hf : fit l[i] (d + 1) (c + 1 + N.sizeL (l.take i)) = false) : fit (.mk op nm n t l) d c = false:=by
 unfold fit at hf |-
 have hf:=of_decide_eq_false hf
 apply decide_eq_false
 rw [N.size_mk,N.depth_mk]
 have h1:=N.sizeL_take l (i + 1)
 have h2:=depthL_take l (i + 1)
 rw [size_take hi] at h1
 rw [depth_take hi] at h2
 omega
theorem fit_next {l : List N} {d c i : Nat} (hi : i < l.length) (h : fitAt l i d c) (hf : fit l[i] (d + 1) (c + 1 + N.sizeL (l.take i)) = true) : fitAt l (i + 1) d c:=by
 unfold fit at hf
 have hf:=of_decide_eq_true hf
 unfold fitAt at h |-
 rw [size_take hi,depth_take hi]
 omega
theorem fit_yes {op n : Int} {nm t : List UInt8} {l : List N} {d c : Nat} (h : fitAt l l.length d c) : fit (.mk op nm n t l) d c = true:=by
 unfold fitAt at h
 rw [List.take_length] at h
 unfold fit
 apply decide_eq_true
 rw [N.size_mk,N.depth_mk]
 omega
end Sy
theorem fits_any (m : Nat) : ∀ (v : N) (a : Value) (P d k : Nat) (w : World) (S : Nat -> Prop),v.size <= m -> d <= 41 -> k <= 4000 -> ¬ S P -> Ct w P k -> NA w S a v ->
  Calls Tryz.prog 56 #[a,.int .i64 (d : Int),.pointer (some ⟨P,0,none⟩)] w fun e w' => e = .returned (.bool (Sy.fit v d k)) /\ Ch P w w' /\ (Sy.fit v d k = true -> Ct w' P (k + v.size)):=by
 induction m with
 | zero => intro v a P d k w S h;have:=v.size_pos;omega
 | succ m ih =>
  intro v a P d k w S hm hd hk hSP hct hv
  by_cases hd40 : 40 < d
  ·
   rw [Sy.fit_deep hd40]
   match v with
   | .mk op nm n t l =>
   obtain ⟨A,c,xs,rfl,ho,hl,hr,hvs⟩:=hv.open2
   have hc0:=(hct.below (bl (.cells #[.int .i64 op,.string ⟨nm.toArray⟩,.int .i64 n,.string ⟨t.toArray⟩,.slice A l.length c] 25))).cell
   have hf0:=(hct.below (bl (.cells #[.int .i64 op,.string ⟨nm.toArray⟩,.int .i64 n,.string ⟨t.toArray⟩,.slice A l.length c] 25))).free
   have hdi : (40 : Int) < (d : Int):=by omega
   clear hv ho hr hvs hm ih hct
   go_enter Tryz.func56,Tryz.ntmps56
   go_wp2_with fail
   go_ret
   first
    | exact ⟨rfl,Ch.trans (Ch.of_below (bl _)) (Ch.set _ _ _ _)⟩
    | exact ⟨rfl,Ch.trans (Ch.of_below (bl _)) (Ch.set _ _ _ _),fun h => by cases h⟩
  by_cases hk4 : 4000 < k + 1
  ·
   rw [Sy.fit_big hk4]
   match v with
   | .mk op nm n t l =>
   obtain ⟨A,c,xs,rfl,ho,hl,hr,hvs⟩:=hv.open2
   have hc0:=(hct.below (bl (.cells #[.int .i64 op,.string ⟨nm.toArray⟩,.int .i64 n,.string ⟨t.toArray⟩,.slice A l.length c] 25))).cell
   have hf0:=(hct.below (bl (.cells #[.int .i64 op,.string ⟨nm.toArray⟩,.int .i64 n,.string ⟨t.toArray⟩,.slice A l.length c] 25))).free
   have hdi : ¬ (40 : Int) < (d : Int):=by omega
   have hki : (4000 : Int) < (k : Int) + 1:=by omega
   have hct1:=(hct.below (bl (.cells #[.int .i64 op,.string ⟨nm.toArray⟩,.int .i64 n,.string ⟨t.toArray⟩,.slice A l.length c] 25))).inc.cell
   clear hv ho hr hvs hm ih hct
   go_enter Tryz.func56,Tryz.ntmps56
   go_wp2_with fail
   go_ret
   first
    | exact ⟨rfl,Ch.trans (Ch.of_below (bl _)) (Ch.set _ _ _ _)⟩
    | exact ⟨rfl,Ch.trans (Ch.of_below (bl _)) (Ch.set _ _ _ _),fun h => by cases h⟩
  match v with
  | .mk op nm n t l =>
  obtain ⟨A,c,xs,rfl,ho,hl,hr,hvs⟩:=hv.open2
  have hs : Hid (Sl w S (.slice A l.length c) l):=⟨by have:=ho.2.2.2.2.2.2;omega,xs,hr,hvs⟩
  have hl0:=hs.out.1
  have hc0:=(hct.below (bl (.cells #[.int .i64 op,.string ⟨nm.toArray⟩,.int .i64 n,.string ⟨t.toArray⟩,.slice A l.length c] 25))).cell
  have hf0:=(hct.below (bl (.cells #[.int .i64 op,.string ⟨nm.toArray⟩,.int .i64 n,.string ⟨t.toArray⟩,.slice A l.length c] 25))).free
  have hdi : ¬ (40 : Int) < (d : Int):=by omega
  have hki : ¬ (4000 : Int) < (k : Int) + 1:=by omega
  have HC:=hid (hct.below (bl (.cells #[.int .i64 op,.string ⟨nm.toArray⟩,.int .i64 n,.string ⟨t.toArray⟩,.slice A l.length c] 25))).inc
  have HG : Hid (Ch P w ((w.alloc (.cells #[.int .i64 op,.string ⟨nm.toArray⟩,.int .i64 n,.string ⟨t.toArray⟩,.slice A l.length c] 25)).setCell ⟨P,0,none⟩ (.int .i64 ((k : Int) + 1)))):=Ch.trans (Ch.of_below (bl _)) (Ch.set _ _ _ _)
  have hct1:=HC.out.cell
  have HM : Hid (∀ u ∈ l,Sy.N.size u <= m):=fun u hu => by
   have:=Sy.N.size_mem hu
   rw [Sy.N.size_mk] at hm
   omega
  have HY:=hid (Sy.fit_yes (op:=op) (nm:=nm) (n:=n) (t:=t) (l:=l) (d:=d) (c:=k))
  have HZ:=hid (Sy.N.size_mk op nm n t l)
  have HN:=hid (fun i (hi : i < l.length) h1 h2 => Sy.fit_no (op:=op) (nm:=nm) (n:=n) (t:=t) (l:=l) (d:=d) (c:=k) hi h1 h2)
  have IH:=hid ih
  clear hv ho hr hvs hm ih hct
  generalize Sy.fit (.mk op nm n t l) d k = dd at HY HN |-
  generalize Sy.N.size (.mk op nm n t l) = sz at HZ |-
  go_enter Tryz.func56,Tryz.ntmps56
  go_wp2_with fail
  go_loopw [25] (fun v25 wr => ∃ i : Nat,i <= l.length /\ v25 = .int .i64 (i : Int) /\ Hid (Sy.fitAt l i d k) /\ Hid (Ct wr P (k + 1 + Sy.N.sizeL (l.take i))) /\ Hid (Ch P w wr)) (fun v25 _ => l.length - (intOf v25).toNat)
  case atStart => exact ⟨0,Nat.zero_le _,rfl,Sy.fitAt_zero (by omega) (by omega),by simpa [Sy.N.sizeL_nil] using HC,HG⟩
  case round =>
   obtain ⟨i,hi,rfl,hfa,hcw,hch⟩:=hrel
   by_cases hlt : i < l.length
   ·
    obtain ⟨b,o,cc,A1,c1,he,q0,q1,q2,q3,q4,hva⟩:=(hs.out.ch hch.out hSP).kids i hlt
    injection he with he1 he2 he3
    subst he1
    clear he2 he3
    have HVA:=hid hva
    have HM1:=hid (HM.out l[i] (List.getElem_mem hlt))
    have HT:=hid (size_take hlt)
    have hfb:=hfa.out.1
    clear hva
    have hdw : IntKind.i64.wrap ((d : Int) + 1) = ((d + 1 : Nat) : Int):=by rw [wrap_small _ (by omega) (by omega)];omega
    have C:=hid (fun W (hW : Below wr.heap.size wr W) => IH.out l[i] _ P (d + 1) (k + 1 + Sy.N.sizeL (l.take i)) W S HM1.out (by omega) (by omega) hSP (hcw.out.below hW) (HVA.out.below hW))
    cases hx : Sy.fit l[i] (d + 1) (k + 1 + Sy.N.sizeL (l.take i))
    ·
     have HF:=hid (HN.out i hlt hfa.out hx)
     rw [hx] at C
     clear hx
     go_wp2_with (go_at_call 56;refine (C.out _ (bl _)).mono ?_;rintro e w1 ⟨rfl,hb1,_⟩)
     go_ret
     rw [HF.out]
     exact ⟨rfl,hch.out.trans ((Ch.of_below (bl _)).trans hb1),fun h => by cases h⟩
    ·
     have HF:=hid (Sy.fit_next hlt hfa.out hx)
     rw [hx] at C
     clear hx
     go_wp2_with (go_at_call 56;refine (C.out _ (bl _)).mono ?_;rintro e w1 ⟨rfl,hb1,hc1⟩)
     go_roundw
     case rel => exact ⟨i + 1,by omega,by go_num,HF,by show Ct _ _ _;rw [HT.out,<- Nat.add_assoc];exact hc1 (by trivial),hch.out.trans ((Ch.of_below (bl _)).trans hb1)⟩
     case measure => simp [intOf];omega
   ·
    have hie : i = l.length:=by omega
    subst hie
    have HF:=hid (HY.out hfa.out)
    have HW : Hid (Ct wr P (k + sz)):=by
     have:=hcw.out
     rw [List.take_length] at this
     show Ct _ _ _
     rw [HZ.out,<- Nat.add_assoc]
     exact this
    go_wp2_with fail
    go_ret
    exact ⟨ret_bool HF.out.symm,hch.out,fun _ => HW.out⟩
namespace Sy
mutual
def wf : N -> Bool
 | .mk op nm n t l => fields op nm n t && kidsOk op l && wfL l
def wfL : List N -> Bool
 | [] => true
 | v :: l => wf v && wfL l
end
theorem wf_mk (op : Int) (nm : List UInt8) (n : Int) (t : List UInt8) (l : List N) : wf (.mk op nm n t l) = (fields op nm n t && kidsOk op l && wfL l):=by rw [wf]
theorem wfL_all : ∀ l : List N,wfL l = l.all wf
 | [] => by rw [wfL];rfl
 | v :: l => by rw [wfL,wfL_all l];rfl
def right (v : N) : Bool:=v.op == 60 && fit v 1 0 && wf v
def rightX (v : N) : Bool:=kExpr v && fit v 1 0 && wf v
end Sy
theorem Tryz.en_wf : En 33:=fun args W => by kernel_rfl
theorem within_any (v : N) (a : Value) (w : World) (S : Nat -> Prop) (hv : NA w S a v) :
  Calls Tryz.prog 32 #[a] w fun e w' => e = .returned (.bool (Sy.fit v 1 0)) /\ Below w.heap.size w w':=by
 match v with
 | .mk op nm n t l =>
 obtain ⟨A,c,xs,rfl,ho,hl,hr,hvs⟩:=hv.open2
 have hv1 : NA w (fun b => S b /\ b < w.heap.size) (.agg #[.int .i64 op,.string ⟨nm.toArray⟩,.int .i64 n,.string ⟨t.toArray⟩,.slice A l.length c]) (.mk op nm n t l):=hv.more (fun b hb hlt => ⟨hb,hlt⟩)
 have hz : (w.alloc (.cells #[.int .i64 op,.string ⟨nm.toArray⟩,.int .i64 n,.string ⟨t.toArray⟩,.slice A l.length c] 25)).heap.size = w.heap.size + 1:=by simp
 have hbb : Below w.heap.size w ((w.alloc (.cells #[.int .i64 op,.string ⟨nm.toArray⟩,.int .i64 n,.string ⟨t.toArray⟩,.slice A l.length c] 25)).alloc (.cells #[.int .i64 0] 3)):=((bl _).trans ((bl _).mono (by omega)))
 have hct : Ct ((w.alloc (.cells #[.int .i64 op,.string ⟨nm.toArray⟩,.int .i64 n,.string ⟨t.toArray⟩,.slice A l.length c] 25)).alloc (.cells #[.int .i64 0] 3)) (w.heap.size + 1) 0:=by
  have:=heap_alloc_new (w.alloc (.cells #[.int .i64 op,.string ⟨nm.toArray⟩,.int .i64 n,.string ⟨t.toArray⟩,.slice A l.length c] 25)) (.cells #[.int .i64 0] 3)
  rw [hz] at this
  exact this
 have C : Hid (Calls Tryz.prog 56 #[.agg #[.int .i64 op,.string ⟨nm.toArray⟩,.int .i64 n,.string ⟨t.toArray⟩,.slice A l.length c],.int .i64 1,.pointer (some ⟨w.heap.size + 1,0,none⟩)] ((w.alloc (.cells #[.int .i64 op,.string ⟨nm.toArray⟩,.int .i64 n,.string ⟨t.toArray⟩,.slice A l.length c] 25)).alloc (.cells #[.int .i64 0] 3)) fun e w' => e = .returned (.bool (Sy.fit (.mk op nm n t l) 1 0)) /\ Ch (w.heap.size + 1) ((w.alloc (.cells #[.int .i64 op,.string ⟨nm.toArray⟩,.int .i64 n,.string ⟨t.toArray⟩,.slice A l.length c] 25)).alloc (.cells #[.int .i64 0] 3)) w') :=
  (fits_any _ _ _ (w.heap.size + 1) 1 0 _ _ (Nat.le_refl _) (by omega) (by omega) (by simp) hct (hv1.below hbb)).mono (fun e w' h => ⟨h.1,h.2.1⟩)
 have HB:=hid hbb
 clear hv ho hr hvs hv1 hbb hct
 generalize Sy.fit (.mk op nm n t l) 1 0 = dd at C |-
 go_enter Tryz.func32,Tryz.ntmps32
 go_wp2_with (go_at_call 56;refine C.out.mono ?_;rintro e w1 ⟨rfl,hb1⟩)
 go_ret
 exact ⟨rfl,HB.out.trans (hb1.below (by omega) HB.out.size)⟩
theorem wf_step (m : Nat) (ih : ∀ u : N,u.size <= m -> KA 33 u (Sy.wf u)) (v : N) (hm : v.size <= m + 1) : KA 33 v (Sy.wf v):=by
 intro a w S hG hv
 have HG:=hid hG
 have HV:=hid hv
 match v with
 | .mk op nm n t l =>
 obtain ⟨A,c,xs,rfl,ho,hl,hr,hvs⟩:=hv.open2
 have hs : Sl w S (.slice A l.length c) l:=⟨by have:=ho.2.2.2.2.2.2;omega,xs,hr,hvs⟩
 have HM : ∀ u ∈ l,Sy.N.size u <= m:=fun u hu => by
  have:=Sy.N.size_mem hu
  rw [Sy.N.size_mk] at hm
  omega
 have C0 : Hid (∀ W,Below w.heap.size w W -> Calls Tryz.prog 57 #[.agg #[.int .i64 op,.string ⟨nm.toArray⟩,.int .i64 n,.string ⟨t.toArray⟩,.slice A l.length c]] W fun e w' => e = .returned (.bool (Sy.fields op nm n t)) /\ Below W.heap.size W w'):=fun W hW => fields_any (.mk op nm n t l) _ W S (hG.below hW) (hv.below hW)
 have C1 : Hid (∀ W,Below w.heap.size w W -> Calls Tryz.prog 58 #[.agg #[.int .i64 op,.string ⟨nm.toArray⟩,.int .i64 n,.string ⟨t.toArray⟩,.slice A l.length c]] W fun e w' => e = .returned (.bool (Sy.kidsOk op l)) /\ Below W.heap.size W w'):=fun W hW => rk_any (.mk op nm n t l) _ W S (hG.below hW) (hv.below hW)
 have C2 : Hid (∀ W,Below w.heap.size w W -> Calls Tryz.prog 59 #[.slice A l.length c,.func (.func 33) #[] #[]] W fun e w' => e = .returned (.bool (Sy.wfL l)) /\ Below W.heap.size W w'):=fun W hW => by
  rw [Sy.wfL_all]
  exact all_any 33 _ Tryz.en_wf l _ W S (hG.below hW) (hs.below hW) (fun u hu => ih u (HM u hu))
 have HD:=hid (Sy.wf_mk op nm n t l)
 clear hv ho hr hvs hG hs HM hm ih HG HV
 generalize Sy.wf (.mk op nm n t l) = dd at HD |-
 generalize Sy.fields op nm n t = b0 at *
 generalize Sy.kidsOk op l = b1 at *
 generalize Sy.wfL l = b2 at *
 go_enter Tryz.func33,Tryz.ntmps33
 go_wp2_with (first
  | (go_at_call 57;(with_reducible refine (C0.out _ (bl _)).mono ?_);rintro e w1 ⟨rfl,hb1⟩;have HX:=hid ((Bx.refl (w:=w) (cs:=#[.int .i64 op,.string ⟨nm.toArray⟩,.int .i64 n,.string ⟨t.toArray⟩,.slice A l.length c])).step hb1);have q0:=HX.out.cell 0;have q1:=HX.out.cell 1;have q2:=HX.out.cell 2;have q3:=HX.out.cell 3;have q4:=HX.out.cell 4;simp only [List.getElem?_toArray,List.getElem?_cons_succ,List.getElem?_cons_zero] at q0 q1 q2 q3 q4;clear hb1)
  | (go_at_call 58;(with_reducible refine (C1.out _ HX.out.below).mono ?_);rintro e w2 ⟨rfl,hb2⟩;have HX:=hid (HX.out.step hb2);have q0:=HX.out.cell 0;have q1:=HX.out.cell 1;have q2:=HX.out.cell 2;have q3:=HX.out.cell 3;have q4:=HX.out.cell 4;simp only [List.getElem?_toArray,List.getElem?_cons_succ,List.getElem?_cons_zero] at q0 q1 q2 q3 q4;clear hb2)
  | (go_at_call 59;(with_reducible refine (C2.out _ HX.out.below).mono ?_);rintro e w3 ⟨rfl,hb3⟩;have HX:=hid (HX.out.step hb3);clear hb3))
 all_goals go_ret
 all_goals exact ⟨ret_bool (by rw [HD.out];simp_all;done),HX.out.below⟩
theorem wf_any : ∀ (m : Nat) (v : N),v.size <= m -> KA 33 v (Sy.wf v)
 | 0,v,h => by have:=v.size_pos;omega
 | m + 1,v,h => wf_step m (wf_any m) v h
end Go.Proofs.YtgeppafcemeidaaGreatDoor
namespace Go.Proofs.YtgeppafcemeidaaGreatDoor
open Tk (T)
namespace Sy
def rank : NT -> Nat
 | .lit => 0
 | .fcall _ => 1
 | .prim => 2
 | .post => 3
 | .unary => 4
 | .chain 4 => 6
 | .cmp => 7
 | .neg => 8
 | .chain 2 => 9
 | .chain 1 => 10
 | .chain _ => 5
 | .elems _ _ => 11
 | .closed _ => 11
 | .cond => 11
 | .branch => 11
 | .stmt => 12
 | .result => 12
 | .blockL _ => 13
 | .const => 1
 | .attempt => 1
 | .comp => 2
 | .decl => 1
 | .progL _ => 2
 | .prog => 3
 | _ => 0
def TotB (n : Nat) : Prop:=∀ nt l,NZ nt -> l.length * 16 + rank nt < n -> ∃ r,Ev nt l r
def TP (p : Pg) : Prop:=∃ r,Run p r
section
variable {n : Nat} {nt : NT} {l : List T} {s : List UInt8}
theorem TP.ret {r : R} : TP (.ret r):=⟨r,.ret r⟩
theorem TP.tail (G : TotB n) (hz : NZ nt) (h : l.length * 16 + rank nt < n) : TP (.call nt l .ret):=by
 obtain ⟨r,hr⟩:=G nt l hz h
 exact ⟨r,hr.run⟩
theorem TP.cl {k : N -> List T -> Pg} (G : TotB n) (hz : NZ nt) (h : l.length * 16 + rank nt < n) (hk : ∀ a q,a.size + q.length <= l.length + sl nt -> 0 < a.size -> TP (k a q)) : TP (Sy.cl nt l k):=by
 obtain ⟨r,hr⟩:=G nt l hz h
 cases r with
 | bad q => exact ⟨_,cl_bad hr⟩
 | ok a q =>
  obtain ⟨x,hx⟩:=hk a q (ev_sz hr hz) (N.size_pos a)
  exact ⟨x,cl_ok hr hx⟩
theorem TP.tk {k : List T -> Pg} (hs : s ≠ []) (hk : l.tail.length + 1 = l.length -> TP (k l.tail)) : TP (Sy.tk s l k):=by
 unfold Sy.tk;split
 ·
  exact hk (tl_fx (fx_ne ‹_› hs))
 ·
  exact ⟨_,.ret _⟩
theorem TP.tkl {k : List T -> Pg} (hk : l.tail.length <= l.length -> TP (k l.tail)) : TP (Sy.tk s l k):=by
 unfold Sy.tk;split
 ·
  exact hk (by simp)
 ·
  exact ⟨_,.ret _⟩
theorem TP.nm {k : List UInt8 -> List T -> Pg} (hk : l.tail.length + 1 = l.length -> TP (k (hd l).t l.tail)) : TP (Sy.nm l k):=by
 unfold Sy.nm;split
 ·
  exact hk (tl_hd ‹_› (by decide))
 ·
  exact ⟨_,.ret _⟩
theorem TP.ite {c : Prop} [Decidable c] {p q : Pg} (h1 : c -> TP p) (h2 : ¬ c -> TP q) : TP (if c then p else q):=by
 split
 ·
  exact h1 ‹_›
 ·
  exact h2 ‹_›
theorem TP.ifx {p q : Pg} (hs : s ≠ []) (h1 : l.tail.length + 1 = l.length -> TP p) (h2 : TP q) : TP (if fx l = s then p else q):=TP.ite (fun hf => h1 (tl_fx (fx_ne hf hs))) (fun _ => h2)
theorem TP.ihd {k : Int} {p q : Pg} (hk : k ≠ 0) (h1 : l.tail.length + 1 = l.length -> TP p) (h2 : TP q) : TP (if (hd l).k = k then p else q):=TP.ite (fun hf => h1 (tl_hd hf hk)) (fun _ => h2)
theorem TP.iinf {v : Nat} {p q : Pg} (hv : v ≠ 0) (h1 : l.tail.length + 1 = l.length -> TP p) (h2 : TP q) : TP (if (inf (fx l)).2 = v then p else q):=TP.ite (fun hf => h1 (tl_fx (inf_nz0 hf hv))) (fun _ => h2)
theorem TP.iand {c : Prop} [Decidable c] {p q : Pg} (hs : s ≠ []) (h1 : l.tail.length + 1 = l.length -> TP p) (h2 : TP q) : TP (if c /\ fx l = s then p else q):=TP.ite (fun hf => h1 (tl_fx (fx_ne hf.2 hs))) (fun _ => h2)
theorem TP.iasg {p q : Pg} (h1 : l.tail.length + 1 = l.length -> l.tail.tail.length + 1 = l.tail.length -> TP p) (h2 : TP q) : TP (if assigns l = true then p else q):=TP.ite (fun hf => h1 (assigns_tl hf).1 (assigns_tl hf).2) (fun _ => h2)
end
def FinR : R -> Prop
 | .ok _ q => Fin q
 | .bad q => Fin q
def NE : NT -> Prop
 | .elems last _ => last ≠ []
 | .elemL last _ _ => last ≠ []
 | _ => True
def FI (nt : NT) (l : List T) (r : R) : Prop:=NZ nt -> NE nt -> Fin l -> FinR r
def WF (p : Pg) : Prop:=Wp FI p FinR
section
variable {nt : NT} {l : List T} {s : List UInt8}
theorem Fin.tl {l : List T} (h : Fin l) (hk : fx l ≠ []) : Fin l.tail:=by
 cases l with
 | nil => exact h
 | cons t r => exact Fin.tail h (fx_k rfl hk)
theorem Fin.tlk {l : List T} {k : Int} (h : Fin l) (hk : (hd l).k = k) (h0 : k ≠ 0) : Fin l.tail:=by
 cases l with
 | nil => exact h
 | cons t r => exact Fin.tail h (by subst hk;exact h0)
theorem WF.ok {a : N} (h : Fin l) : WF (.ret (.ok a l)):=h
theorem WF.bad (h : Fin l) : WF (.ret (.bad l)):=h
theorem WF.tail (hz : NZ nt) (hn : NE nt) (h : Fin l) : WF (.call nt l .ret):=fun _ h1 => h1 hz hn h
theorem WF.cl {k : N -> List T -> Pg} (hz : NZ nt) (hn : NE nt) (h : Fin l) (hk : ∀ a q,Fin q -> WF (k a q)) : WF (Sy.cl nt l k):=fun r1 h1 => by
 cases r1 with
 | ok a q => exact hk a q (h1 hz hn h)
 | bad q => exact h1 hz hn h
theorem WF.tk {k : List T -> Pg} (h : Fin l) (hs : s ≠ []) (hk : Fin l.tail -> WF (k l.tail)) : WF (Sy.tk s l k):=by
 unfold Sy.tk;split
 ·
  exact hk (h.tl (fx_ne ‹_› hs))
 ·
  exact h
theorem WF.nm {k : List UInt8 -> List T -> Pg} (h : Fin l) (hk : Fin l.tail -> WF (k (hd l).t l.tail)) : WF (Sy.nm l k):=by
 unfold Sy.nm;split
 ·
  exact hk (h.tlk ‹_› (by decide))
 ·
  exact h
theorem WF.ite {c : Prop} [Decidable c] {p q : Pg} (h1 : c -> WF p) (h2 : ¬ c -> WF q) : WF (if c then p else q):=by
 split
 ·
  exact h1 ‹_›
 ·
  exact h2 ‹_›
theorem WF.ifx {p q : Pg} (h : Fin l) (hs : s ≠ []) (h1 : Fin l.tail -> WF p) (h2 : WF q) : WF (if fx l = s then p else q):=WF.ite (fun hf => h1 (h.tl (fx_ne hf hs))) (fun _ => h2)
theorem WF.ihd {k : Int} {p q : Pg} (h : Fin l) (hk : k ≠ 0) (h1 : Fin l.tail -> WF p) (h2 : WF q) : WF (if (hd l).k = k then p else q):=WF.ite (fun hf => h1 (h.tlk hf hk)) (fun _ => h2)
theorem WF.iinf {v : Nat} {p q : Pg} (h : Fin l) (hv : v ≠ 0) (h1 : Fin l.tail -> WF p) (h2 : WF q) : WF (if (inf (fx l)).2 = v then p else q):=WF.ite (fun hf => h1 (h.tl (inf_nz0 hf hv))) (fun _ => h2)
theorem WF.iand {c : Prop} [Decidable c] {p q : Pg} (h : Fin l) (hs : s ≠ []) (h1 : Fin l.tail -> WF p) (h2 : WF q) : WF (if c /\ fx l = s then p else q):=WF.ite (fun hf => h1 (h.tl (fx_ne hf.2 hs))) (fun _ => h2)
theorem WF.iasg {p q : Pg} (h : Fin l) (h1 : Fin l.tail -> Fin l.tail.tail -> WF p) (h2 : WF q) : WF (if assigns l = true then p else q):=WF.ite (fun hf => by
 simp only [assigns,Bool.and_eq_true,decide_eq_true_eq] at hf
 have f1:=h.tlk hf.1 (by decide)
 exact h1 f1 (f1.tl (fx_ne hf.2 (by decide)))) (fun _ => h2)
end
theorem opnd_ne (v : Nat) : NE (opnd v):=by
 unfold opnd
 repeat' split
 all_goals trivial
theorem elm_ne (e : Nat) : NE (elm e):=by
 unfold elm
 repeat' split
 all_goals trivial
theorem body_fin (nt : NT) (l : List T) (hz : NZ nt) (hn : NE nt) (hf : Fin l) : WF (body nt l):=by
 cases nt with
 | chain v => exact WF.cl (opnd_nz v).1 (opnd_ne v) hf (fun a q h => WF.tail hz trivial h)
 | loop v a => exact WF.iinf hf hz (fun h => WF.cl (opnd_nz v).1 (opnd_ne v) h (fun b q h => WF.tail hz trivial h)) (WF.ok hf)
 | elems last e => exact WF.ifx hf hn (fun h => WF.ok h) (WF.cl (elm_nz e).1 (elm_ne e) hf (fun a q h => WF.tail trivial hn h))
 | elemL last e acc => exact WF.ifx hf (by decide) (fun h => WF.cl (elm_nz e).1 (elm_ne e) h (fun a q h => WF.tail trivial hn h)) (WF.tk hf hn (fun h => WF.ok h))
 | _ =>
  unfold body
  simp only []
  repeat (first
   | exact WF.bad (by assumption)
   | exact WF.ok (by assumption)
   | (refine WF.tk (by assumption) (by decide) (fun h => ?_))
   | (refine WF.nm (by assumption) (fun h => ?_))
   | exact WF.tail (by simp [NZ]) (by simp [NE]) (by assumption)
   | (refine WF.cl (by simp [NZ]) (by simp [NE]) (by assumption) (fun a q h => ?_))
   | (refine WF.ifx (by assumption) (by decide) (fun h => ?_) ?_)
   | (refine WF.ihd (by assumption) (by decide) (fun h => ?_) ?_)
   | (refine WF.iinf (by assumption) (by decide) (fun h => ?_) ?_)
   | (refine WF.iand (by assumption) (by decide) (fun h => ?_) ?_)
   | (refine WF.iasg (by assumption) (fun h h' => ?_) ?_)
   | (refine WF.ite (fun _ => ?_) (fun _ => ?_)))
theorem ev_fin {nt : NT} {l : List T} {r : R} (h : Ev nt l r) : FI nt l r:=ev_inv (fun nt l => by
 by_cases hz : NZ nt
 ·
  by_cases hn : NE nt
  ·
   by_cases hf : Fin l
   ·
    exact wp_m (body_fin nt l hz hn hf) (fun r hr _ _ _ => hr)
   ·
    exact wp_m (wp_any _) (fun r _ _ _ hf' => absurd hf' hf)
  ·
   exact wp_m (wp_any _) (fun r _ _ hn' => absurd hn' hn)
 ·
  exact wp_m (wp_any _) (fun r _ hz' => absurd hz' hz)) h
theorem ev_end {nt : NT} {e : T} {a : N} {q : List T} (he : Fin [e]) (hz : NZ nt) (hn : NE nt) (hs : sl nt = 0) (h : Ev nt [e] (.ok a q)) : False:=by
 have h1:=ev_sz h hz
 have h2:=ev_fin h hz hn he
 have h3:=N.size_pos a
 rw [hs] at h1
 cases q with
 | nil => exact h2
 | cons t r => simp only [List.length_cons,List.length_nil] at h1;omega
end Sy
end Go.Proofs.YtgeppafcemeidaaGreatDoor
namespace Go.Proofs.YtgeppafcemeidaaGreatDoor
open Tk (T)
namespace Sy
def Alike (t u : T) : Prop:=t.k = u.k /\ t.t = u.t /\ t.n = u.n
inductive Corr (e : T) (z : List T) : List T -> List T -> Prop
 | last : Corr e z [e] z
 | cons {t u : T} {l m : List T} : Alike t u -> t.k ≠ 0 -> Corr e z l m -> Corr e z (t :: l) (u :: m)
def Zok (z : List T) : Prop:=(hd z).k ≠ 1 /\ (hd z).k ≠ 3 /\ (hd z).k ≠ 4 /\ fx z ∈ ([[],[41],[118,97,114],[102,117,110,99],[111,110]] : List (List UInt8))
def Safe (s : List UInt8) : Prop:=s ∉ ([[],[41],[118,97,114],[102,117,110,99],[111,110]] : List (List UInt8))
instance (s : List UInt8) : Decidable (Safe s):=by unfold Safe;infer_instance
section
variable {e : T} {z l m : List T} {s : List UInt8}
theorem fx_end (he : e.k = 0) : fx [e] = []:=by simp [fx,he]
theorem Alike.fx {t u : T} (h : Alike t u) : Sy.fx (t :: l) = Sy.fx (u :: m):=by
 unfold Sy.fx;simp only [];rw [h.1,h.2.1]
theorem Corr.two (h : Corr e z l m) : (l = [e] /\ m = z) \/ (∃ t u r q,l = t :: r /\ m = u :: q /\ Alike t u /\ t.k ≠ 0 /\ Corr e z r q):=by
 cases h with
 | last => exact .inl ⟨rfl,rfl⟩
 | cons h1 h2 h3 => exact .inr ⟨_,_,_,_,rfl,rfl,h1,h2,h3⟩
theorem Corr.fin (h : Corr e z l m) : ∀ he : Fin [e],(∀ t ∈ l,TB t) -> Fin l:=by
 intro he ht
 induction h with
 | last => exact he
 | cons h1 h2 h3 ih =>
  have h4:=ih (fun t hm => ht t (List.mem_cons_of_mem _ hm))
  rename_i t u l m
  cases l with
  | nil => exact absurd h4 (by simp [Fin])
  | cons a b => exact ⟨h2,ht _ List.mem_cons_self,h4⟩
theorem Corr.fx_eq (h : Corr e z l m) (he : e.k = 0) (hz : Zok z) (hs : Safe s) : (fx l = s ↔ fx m = s):=by
 rcases h.two with ⟨rfl,rfl⟩ | ⟨t,u,r,q,rfl,rfl,h1,_⟩
 ·
  rw [fx_end he]
  constructor
  ·
   intro h;exact absurd (h ▸ by simp : s ∈ _) hs
  ·
   intro h;exact absurd (h ▸ hz.2.2.2) hs
 ·
  rw [h1.fx (m:=q)]
theorem Corr.inf_eq (h : Corr e z l m) (he : e.k = 0) (hz : Zok z) : inf (fx l) = inf (fx m):=by
 rcases h.two with ⟨rfl,rfl⟩ | ⟨t,u,r,q,rfl,rfl,h1,_⟩
 ·
  rw [fx_end he]
  have:=hz.2.2.2
  simp only [List.mem_cons,List.not_mem_nil,or_false] at this
  rcases this with h | h | h | h | h <;> rw [h] <;> rfl
 ·
  rw [h1.fx (m:=q)]
theorem Corr.k_eq (h : Corr e z l m) (he : e.k = 0) (hz : Zok z) {k : Int} (hk : k = 1 \/ k = 3 \/ k = 4) : ((hd l).k = k ↔ (hd m).k = k):=by
 rcases h.two with ⟨rfl,rfl⟩ | ⟨t,u,r,q,rfl,rfl,h1,_⟩
 ·
  have : (hd [e]).k = 0:=he
  rw [this]
  obtain ⟨z1,z2,z3,_⟩:=hz
  constructor
  ·
   intro h;omega
  ·
   intro h;omega
 ·
  simp only [hd,List.headD_cons];rw [h1.1]
theorem Corr.tl (h : Corr e z l m) (he : e.k = 0) (hf : fx l ≠ []) : Corr e z l.tail m.tail:=by
 rcases h.two with ⟨rfl,rfl⟩ | ⟨t,u,r,q,rfl,rfl,_,_,h1⟩
 ·
  exact absurd (fx_end he) hf
 ·
  exact h1
theorem Corr.hdt (h : Corr e z l m) (he : e.k = 0) {k : Int} (hf : (hd l).k = k) (hk : k ≠ 0) : Corr e z l.tail m.tail /\ (hd l).t = (hd m).t /\ (hd l).n = (hd m).n:=by
 rcases h.two with ⟨rfl,rfl⟩ | ⟨t,u,r,q,rfl,rfl,h2,_,h1⟩
 ·
  exact absurd (hf.symm.trans he) hk
 ·
  exact ⟨h1,h2.2.1,h2.2.2⟩
theorem Corr.asg (h : Corr e z l m) (he : e.k = 0) (hz : Zok z) : assigns l = assigns m:=by
 unfold assigns
 by_cases h1 : (hd l).k = 1
 ·
  have h2:=(h.k_eq he hz (.inl rfl)).1 h1
  have h3:=(h.hdt he h1 (by decide)).1.fx_eq he hz (s:=[61]) (by decide)
  simp only [h1,h2,decide_true,Bool.true_and]
  exact decide_eq_decide.2 h3
 ·
  have h2 : ¬ (hd m).k = 1:=fun hc => h1 ((h.k_eq he hz (.inl rfl)).2 hc)
  simp only [h1,h2,decide_false,Bool.false_and]
def Post2 (e : T) (z : List T) (p' : Pg) : R -> Prop
 | .ok a q => ∃ q',Corr e z q q' /\ Run p' (.ok a q')
 | .bad _ => True
def LI (e : T) (z : List T) (nt : NT) (l : List T) (r : R) : Prop:=∀ m,Corr e z l m -> Post2 e z (body nt m) r
def LJ (e : T) (z : List T) (nt : NT) (l : List T) (r : R) : Prop:=(∀ acc,nt ≠ .progL acc) -> nt ≠ .prog -> NZ nt -> NE nt -> (sl nt = 0 -> l ≠ [e]) -> LI e z nt l r
def WM (e : T) (z : List T) (p p' : Pg) : Prop:=Wp (fun nt l r => Ev nt l r /\ LJ e z nt l r) p (Post2 e z p')
variable {nt : NT} {p p' q q' : Pg}
theorem Post2.mono (h : ∀ r,Run p r -> Run p' r) : ∀ {r},Post2 e z p r -> Post2 e z p' r
 | .ok _ _,⟨q',h1,h2⟩ => ⟨q',h1,h _ h2⟩
 | .bad _,_ => trivial
theorem LJ.li {r : R} (he : Fin [e]) (hr : Ev nt l r /\ LJ e z nt l r) (h1 : ∀ acc,nt ≠ .progL acc) (h2 : nt ≠ .prog) (hz : NZ nt) (hn : NE nt) : LI e z nt l r:=by
 by_cases hc : sl nt = 0 /\ l = [e]
 ·
  obtain ⟨hs,rfl⟩:=hc
  cases r with
  | bad r => exact fun _ _ => trivial
  | ok a r => exact (ev_end he hz hn hs hr.1).elim
 ·
  exact hr.2 h1 h2 hz hn (fun hs hl => hc ⟨hs,hl⟩)
theorem WM.ok {a : N} (h : Corr e z l m) : WM e z (.ret (.ok a l)) (.ret (.ok a m)):=⟨m,h,.ret _⟩
theorem WM.bad {l : List T} : WM e z (.ret (.bad l)) p':=trivial
theorem WM.tail (he : Fin [e]) (h1 : ∀ acc,nt ≠ .progL acc) (h2 : nt ≠ .prog) (hz : NZ nt) (hn : NE nt) (h : Corr e z l m) : WM e z (.call nt l .ret) (.call nt m .ret):=fun r hr => by
 refine Post2.mono (fun r' (h' : Run (body nt m) r') => Ev.run h') (LJ.li he hr h1 h2 hz hn m h)
theorem WM.cl {k k' : N -> List T -> Pg} (he : Fin [e]) (h1 : ∀ acc,nt ≠ .progL acc) (h2 : nt ≠ .prog) (hz : NZ nt) (hn : NE nt) (h : Corr e z l m) (hk : ∀ a r r',Corr e z r r' -> WM e z (k a r) (k' a r')) : WM e z (Sy.cl nt l k) (Sy.cl nt m k'):=fun r hr => by
 cases r with
 | bad r => exact WM.bad
 | ok a r =>
  obtain ⟨r',c1,c2⟩:=LJ.li he hr h1 h2 hz hn m h
  exact wp_m (hk a r r' c1) (fun x hx => Post2.mono (fun y hy => cl_ok c2 hy) hx)
theorem WM.ite {c c' : Prop} [Decidable c] [Decidable c'] (hc : c ↔ c') (h1 : c -> WM e z p p') (h2 : ¬ c -> WM e z q q') : WM e z (if c then p else q) (if c' then p' else q'):=by
 by_cases h : c
 ·
  rw [if_pos h,if_pos (hc.1 h)];exact h1 h
 ·
  rw [if_neg h,if_neg (fun h' => h (hc.2 h'))];exact h2 h
theorem WM.ifx (he : e.k = 0) (hz : Zok z) (hs : Safe s) (h : Corr e z l m) (h1 : Corr e z l.tail m.tail -> WM e z p p') (h2 : WM e z q q') : WM e z (if fx l = s then p else q) (if fx m = s then p' else q') :=
 WM.ite (h.fx_eq he hz hs) (fun hf => h1 (h.tl he (fun h0 => hs (by rw [<- hf,h0];simp)))) (fun _ => h2)
theorem WM.tk {k k' : List T -> Pg} (he : e.k = 0) (hs : s ≠ []) (h : Corr e z l m) (h1 : Corr e z l.tail m.tail -> WM e z (k l.tail) (k' m.tail)) : WM e z (Sy.tk s l k) (Sy.tk s m k'):=by
 unfold Sy.tk
 by_cases hf : fx l = s
 ·
  have hm : fx m = s:=by
   rcases h.two with ⟨rfl,rfl⟩ | ⟨t,u,r,q,rfl,rfl,h1,_⟩
   ·
    exact absurd ((fx_end he).symm.trans hf).symm hs
   ·
    rw [<- hf,h1.fx (m:=q)]
  rw [if_pos hf,if_pos hm];exact h1 (h.tl he (fx_ne hf hs))
 ·
  rw [if_neg hf];exact WM.bad
theorem WM.nm {k k' : List UInt8 -> List T -> Pg} (he : e.k = 0) (hz : Zok z) (h : Corr e z l m) (h1 : ∀ x,Corr e z l.tail m.tail -> WM e z (k x l.tail) (k' x m.tail)) : WM e z (Sy.nm l k) (Sy.nm m k'):=by
 unfold Sy.nm
 refine WM.ite (h.k_eq he hz (.inl rfl)) (fun hf => ?_) (fun _ => WM.bad)
 obtain ⟨c1,c2,_⟩:=h.hdt he hf (by decide)
 rw [<- c2];exact h1 _ c1
theorem WM.ihd {k : Int} (he : e.k = 0) (hz : Zok z) (hk : k = 1 \/ k = 3 \/ k = 4) (h : Corr e z l m) (h1 : Corr e z l.tail m.tail -> (hd l).t = (hd m).t -> (hd l).n = (hd m).n -> WM e z p p') (h2 : WM e z q q') : WM e z (if (hd l).k = k then p else q) (if (hd m).k = k then p' else q') :=
 WM.ite (h.k_eq he hz hk) (fun hf => by obtain ⟨c1,c2,c3⟩:=h.hdt he hf (by omega);exact h1 c1 c2 c3) (fun _ => h2)
theorem WM.iinf {v : Nat} (he : e.k = 0) (hz : Zok z) (hv : v ≠ 0) (h : Corr e z l m) (h1 : Corr e z l.tail m.tail -> (inf (fx l)).1 = (inf (fx m)).1 -> WM e z p p') (h2 : WM e z q q') : WM e z (if (inf (fx l)).2 = v then p else q) (if (inf (fx m)).2 = v then p' else q') :=
 WM.ite (by rw [h.inf_eq he hz]) (fun hf => h1 (h.tl he (inf_nz hf hv)) (by rw [h.inf_eq he hz])) (fun _ => h2)
theorem WM.iand {c : Prop} [Decidable c] (he : e.k = 0) (hz : Zok z) (hs : Safe s) (h : Corr e z l m) (h1 : Corr e z l.tail m.tail -> WM e z p p') (h2 : WM e z q q') : WM e z (if c /\ fx l = s then p else q) (if c /\ fx m = s then p' else q') :=
 WM.ite (by rw [h.fx_eq he hz hs]) (fun hf => h1 (h.tl he (fun h0 => hs (by rw [<- hf.2,h0];simp)))) (fun _ => h2)
theorem WM.iasg (he : e.k = 0) (hz : Zok z) (h : Corr e z l m) (h1 : Corr e z l.tail m.tail -> Corr e z l.tail.tail m.tail.tail -> (hd l).t = (hd m).t -> WM e z p p') (h2 : WM e z q q') : WM e z (if assigns l = true then p else q) (if assigns m = true then p' else q') :=
 WM.ite (by rw [h.asg he hz]) (fun hf => by
  simp only [assigns,Bool.and_eq_true,decide_eq_true_eq] at hf
  obtain ⟨c1,c2,_⟩:=h.hdt he hf.1 (by decide)
  exact h1 c1 (c1.tl he (fx_ne hf.2 (by decide))) c2) (fun _ => h2)
end
inductive DL : List T -> List N -> List T -> Prop
 | nil (l : List T) : DL l [] l
 | cons {l q r : List T} {d : N} {ds : List N} : (hd l).k ≠ 0 -> Ev .decl l (.ok d q) -> DL q ds r -> DL l (d :: ds) r
theorem DL.app {l q r : List T} {a b : List N} (h : DL l a q) (h2 : DL q b r) : DL l (a ++ b) r:=by
 induction h with
 | nil l => exact h2
 | cons h1 h3 _ ih => exact .cons h1 h3 (ih h2)
end Sy
end Go.Proofs.YtgeppafcemeidaaGreatDoor
namespace Go.Proofs.YtgeppafcemeidaaGreatDoor
namespace Tk
def Sep (c : UInt8) : Prop:=wordc c = false /\ c.toNat ≠ 61
theorem Sep.digit {c : UInt8} (h : Sep c) : digit c = false:=by
 have:=h.1;unfold wordc at this;simp only [Bool.or_eq_false_iff] at this;exact this.2
theorem Sep.letter {c : UInt8} (h : Sep c) : letter c = false:=by
 have:=h.1;unfold wordc at this;simp only [Bool.or_eq_false_iff] at this;exact this.1
end Tk
end Go.Proofs.YtgeppafcemeidaaGreatDoor
namespace Go.Proofs.YtgeppafcemeidaaGreatDoor
open Tk (T)
namespace Sy
theorem scan_acc (K : Nat) : ∀ (f : Nat) (l : List UInt8) (acc : List T),Tk.scan K f l acc = match Tk.scan K f l [] with
  | .bad o e => .bad o e
  | .good r => .good (acc ++ r)
 | 0,_,_ => rfl
 | f + 1,l,acc => by
  rw [Tk.scan,Tk.scan]
  cases hx : Tk.tok (l.dropWhile Tk.blank) with
  | bad e => rfl
  | good k t n r =>
   simp only []
   by_cases hk : k = 0
   ·
    rw [if_pos hk,if_pos hk];simp
   ·
    rw [if_neg hk,if_neg hk,scan_acc K f r,scan_acc K f r ([] ++ _)]
    cases Tk.scan K f r [] with
    | bad o e => rfl
    | good r' => simp
end Sy
end Go.Proofs.YtgeppafcemeidaaGreatDoor
namespace Go.Proofs.YtgeppafcemeidaaGreatDoor
open Sy (N)
open Tk (T)
namespace Sy
def named (s : List UInt8) : Bool:=match s with
 | [] => false
 | c :: r => decide ((c :: r).length <= 64) && Tk.letter c && !Tk.kw (c :: r) && (c :: r).all Tk.wordc
theorem takeWhile_all {p : UInt8 -> Bool} : ∀ {l : List UInt8},l.all p = true -> l.takeWhile p = l /\ l.dropWhile p = []
 | [],_ => ⟨rfl,rfl⟩
 | c :: l,h => by
  simp only [List.all_cons,Bool.and_eq_true] at h
  obtain ⟨h1,h2⟩:=takeWhile_all h.2
  rw [List.takeWhile_cons,List.dropWhile_cons,if_pos h.1,if_pos h.1,h1]
  exact ⟨rfl,h2⟩
theorem takeWhile_pre (p : UInt8 -> Bool) : ∀ l : List UInt8,(l.takeWhile p).all p = true
 | [] => rfl
 | c :: l => by
  rw [List.takeWhile_cons]
  split
  ·
   rw [List.all_cons,takeWhile_pre p l];simp [*]
  ·
   rfl
theorem letter_noblank {c : UInt8} (h : Tk.letter c = true) : Tk.blank c = false:=by
 unfold Tk.letter at h;unfold Tk.blank
 simp only [Bool.or_eq_true,Bool.and_eq_true,decide_eq_true_eq] at h
 simp only [Bool.or_eq_false_iff,decide_eq_false_iff_not]
 omega
theorem isName_named (s : List UInt8) : isName s = named s:=by
 cases hs : s with
 | nil => rfl
 | cons c r =>
 rw [<- hs]
 by_cases hn : named s = true
 ·
  rw [hn]
  have hn':=hn
  rw [hs] at hn'
  unfold named at hn'
  simp only [Bool.and_eq_true,decide_eq_true_eq,Bool.not_eq_true'] at hn'
  rw [<- hs] at hn'
  obtain ⟨⟨⟨h1,h2⟩,h3⟩,h4⟩:=hn'
  have hb : s.dropWhile Tk.blank = s:=by rw [hs,List.dropWhile_cons,if_neg (by rw [letter_noblank h2];decide)]
  obtain ⟨e1,e2⟩:=takeWhile_all h4
  have ht : Tk.tok (s.dropWhile Tk.blank) = .good 1 s 0 []:=by
   rw [hb,hs,Tk.tok_cons,if_pos h2,<- hs]
   unfold Tk.wordT
   simp only []
   rw [e1,e2,if_neg (by omega),h3]
   rfl
  have hl : s.length = r.length + 1:=by rw [hs];rfl
  have hsc : Tk.scanA s = .good [⟨1,(s.length : Int) - (s.dropWhile Tk.blank).length,s,0⟩,⟨0,(s.length : Int),[],0⟩]:=by
   unfold Tk.scanA
   rw [if_neg (by omega),Tk.scan_step ht (by decide)]
   rw [show s.length = r.length + 1 from hl,Tk.scan_last rfl]
   rfl
  rw [isName_two hsc]
  simp
 ·
  have hf : named s = false:=by simpa using hn
  rw [hf]
  cases hi : isName s with
  | false => rfl
  | true =>
   exfalso
   apply hn
   unfold isName at hi
   split at hi
   ·
    cases hi
   ·
    rename_i l hl
    split at hi
    ·
     rename_i a b
     simp only [Bool.and_eq_true,beq_iff_eq] at hi
     have hsc:=hl
     unfold Tk.scanA at hsc
     split at hsc
     ·
      cases hsc
     ·
      rename_i hlen
      rw [Tk.scan_eq] at hsc
      cases hx : Tk.tok (s.dropWhile Tk.blank) with
      | bad e => rw [hx] at hsc;cases hsc
      | good k t n q =>
       rw [hx] at hsc
       simp only [] at hsc
       by_cases hk : k = 0
       ·
        rw [if_pos hk] at hsc
        cases hsc
       ·
        rw [if_neg hk] at hsc
        have hacc : Tk.scan s.length s.length q ([] ++ [⟨k,(s.length : Int) - (s.dropWhile Tk.blank).length,t,n⟩]) = .good [a,b]:=hsc
        rw [scan_acc] at hacc
        cases hq : Tk.scan s.length s.length q [] with
        | bad o e => rw [hq] at hacc;cases hacc
        | good r' =>
         rw [hq] at hacc
         injection hacc with hacc
         simp only [List.nil_append,List.singleton_append,List.cons.injEq] at hacc
         obtain ⟨ha,_⟩:=hacc
         have hk1 : k = 1:=by rw [<- ha] at hi;exact hi.1
         have ht : t = s:=by rw [<- ha] at hi;exact hi.2
         subst hk1
         rw [ht] at hx
         cases hd : s.dropWhile Tk.blank with
         | nil => rw [hd] at hx;cases hx
         | cons d q2 =>
          rw [hd,Tk.tok_cons] at hx
          by_cases h1 : Tk.letter d = true
          ·
           rw [if_pos h1] at hx
           unfold Tk.wordT at hx
           simp only [] at hx
           split at hx
           ·
            cases hx
           ·
            rename_i h64
            injection hx with g1 g2 g3 g4
            have hkw : Tk.kw s = false:=by
             rw [g2] at g1
             cases hkk : Tk.kw s with
             | false => rfl
             | true => rw [hkk] at g1;simp at g1
            have hall : s.all Tk.wordc = true:=by have:=takeWhile_pre Tk.wordc (d :: q2);rw [g2] at this;exact this
            rw [g2] at h64
            have hlet : Tk.letter c = true:=by
             have : (List.takeWhile Tk.wordc (d :: q2)).headD 0 = d:=by rw [List.takeWhile_cons,if_pos (by unfold Tk.wordc;rw [h1];rfl)];rfl
             rw [g2,hs] at this
             rw [show c = d from this];exact h1
            unfold named
            rw [hs] at h64 hkw hall |-
            simp only [Bool.and_eq_true,decide_eq_true_eq,Bool.not_eq_true']
            exact ⟨⟨⟨by omega,hlet⟩,hkw⟩,hall⟩
          ·
           rw [if_neg h1] at hx
           split at hx
           ·
            unfold Tk.num at hx
            simp only [] at hx
            split at hx
            ·
             cases hx
            ·
             split at hx <;> cases hx
           ·
            split at hx
            ·
             have:=(Tk.lit_len _ _ _ hx).2.1
             omega
            ·
             unfold Tk.sgn at hx
             split at hx
             ·
              cases hx
             ·
              split at hx <;> cases hx
    ·
     cases hi
def bareN (v : N) (name text : Bool) : Bool:=(name || v.nm == []) && v.n == 0 && (text || v.t == []) && (!name || named v.nm) && decide (v.t.length <= 4096)
mutual
def rX : N -> Bool
 | .mk op nm n t l => let v:=N.mk op nm n t l
  if op = 1 \/ op = 2 \/ op = 3 then bareN v false false && l.length == 0
  else if op = 4 then nm == [] && t == [] && decide (0 <= n) && l.length == 0
  else if op = 5 then bareN v false true && l.length == 0
  else if op = 6 then bareN v true false && l.length == 0
  else if op = 7 then bareN v false false && rXs l
  else if op = 8 then rPs l && bareN v false false
  else if op = 10 \/ op = 11 then bareN v true false && rXs l
  else if op = 12 \/ op = 13 \/ op = 14 then bareN v false false && l.length == 1 && rXs l
  else if op = 29 then bareN v true false && l.length == 1 && rXs l
  else decide (15 <= op) && decide (op <= 28) && bareN v false false && l.length == 2 && rXs l
def rXs : List N -> Bool
 | [] => true
 | v :: l => rX v && rXs l
def rPs : List N -> Bool
 | [] => true
 | .mk op nm n t k :: l => op == 9 && bareN (.mk op nm n t k) false true && k.length == 1 && rXs k && rPs l
end
mutual
def rB : N -> Bool
 | .mk op nm n t l => op == 53 && bareN (.mk op nm n t l) false false && rSs l
def rS : N -> Bool
 | .mk op nm n t l => let v:=N.mk op nm n t l
  if op = 40 \/ op = 41 then bareN v true false && l.length == 1 && rXs l
  else if op = 42 then bareN v false false && rIf l
  else if op = 43 then bareN v false false && rWh l
  else if op = 44 then bareN v false false && decide (l.length <= 1) && rXs l
  else if op = 45 \/ op = 52 then bareN v false false && l.length == 1 && rXs l
  else if op = 46 then bareN v true false && l.length == 2 && rBs l
  else if op = 47 then bareN v false false && l.length == 1 && rBs l
  else if op = 48 then bareN v true false && rXs l
  else if op = 49 then bareN v false false && decide (0 < l.length) && rCs 0 l
  else false
def rSs : List N -> Bool
 | [] => true
 | v :: l => rS v && rSs l
def rBs : List N -> Bool
 | [] => true
 | v :: l => rB v && rBs l
def rIf : List N -> Bool
 | [a,b] => rX a && rB b
 | [a,b,c] => rX a && rB b && (rB c || (c.op == 42 && rS c))
 | _ => false
def rWh : List N -> Bool
 | [a,b] => rX a && rB b
 | _ => false
def rEl : List N -> Bool
 | [b] => rB b
 | _ => false
def rCs : Nat -> List N -> Bool
 | _,[] => true
 | i,.mk op nm n t k :: l => ((op == 51 && l.isEmpty && bareN (.mk op nm n t k) false false && rEl k) || (op == 50 && decide (i < 16) && bareN (.mk op nm n t k) (nm != []) false && rWh k)) && rCs (i + 1) l
end
def rK (v : N) : Bool:=if v.op = 14 then rX v && oneInt v.l else rX v && decide (1 <= v.op) && decide (v.op <= 5)
def rPar : List N -> Bool
 | [] => false
 | [b] => rB b
 | a :: l => (a.op == 6 && rX a) && rPar l
def rVar : List N -> Bool
 | [a] => rK a
 | _ => false
def rD (v : N) : Bool :=
 if v.op = 61 then bareN v true false && rVar v.l
 else if v.op = 62 then bareN v true false && rPar v.l
 else if v.op = 63 \/ v.op = 64 then bareN v true true && named v.t && v.l.length == 1 && rBs v.l
 else if v.op = 65 then bareN v true true && named v.t && decide (1 <= v.l.length) && decide (v.l.length <= 2) && rBs v.l
 else false
def rRight (v : N) : Bool:=v.op == 60 && bareN v false false && decide (v.size <= 4000 /\ v.depth <= 40) && v.l.all rD
def rRightX (v : N) : Bool:=decide (v.size <= 4000 /\ v.depth <= 40) && rX v
theorem named_len {s : List UInt8} (h : named s = true) : s.length <= 64:=by
 unfold named at h
 split at h
 ·
  cases h
 ·
  simp only [Bool.and_eq_true,decide_eq_true_eq] at h;exact h.1.1.1
theorem rXs_all : ∀ l : List N,rXs l = l.all rX
 | [] => by rw [rXs];rfl
 | v :: l => by rw [rXs,rXs_all l];rfl
theorem rSs_all : ∀ l : List N,rSs l = l.all rS
 | [] => by rw [rSs];rfl
 | v :: l => by rw [rSs,rSs_all l];rfl
theorem rBs_all : ∀ l : List N,rBs l = l.all rB
 | [] => by rw [rBs];rfl
 | v :: l => by rw [rBs,rBs_all l];rfl
theorem all_and {p q r : N -> Bool} : ∀ {l : List N},(∀ v ∈ l,p v = (q v && r v)) -> l.all p = (l.all q && l.all r)
 | [],_ => rfl
 | v :: l,h => by
  rw [List.all_cons,List.all_cons,List.all_cons,h v List.mem_cons_self,all_and (fun u hu => h u (List.mem_cons_of_mem _ hu))]
  cases q v <;> cases r v <;> cases l.all q <;> cases l.all r <;> rfl
structure Eqs (m : Nat) : Prop where
 x : ∀ v : N,v.size < m -> rX v = (kExpr v && wf v)
 b : ∀ v : N,v.size < m -> rB v = (kBlock v && wf v)
 s : ∀ v : N,v.size < m -> rS v = (kStmt v && wf v)
theorem kids_lt {op n : Int} {nm t : List UInt8} {l : List N} {m : Nat} (h : (N.mk op nm n t l).size < m + 1) : ∀ v ∈ l,v.size < m:=fun v hv => by
 have:=N.size_mem hv
 rw [N.size_mk] at h
 omega
theorem text0 {nm t : List UInt8} {n op : Int} {l : List N} : bareN (.mk op nm n t l) false false = (nm == [] && n == 0 && t == []):=by
 unfold bareN
 simp only [N.nm,N.n,N.t]
 cases t with
 | nil => simp
 | cons a b => simp
theorem text1 {nm t : List UInt8} {n op : Int} {l : List N} : bareN (.mk op nm n t l) true false = (isName nm && n == 0 && t == []):=by
 unfold bareN
 simp only [N.nm,N.n,N.t]
 rw [isName_named]
 cases t with
 | nil => cases named nm <;> simp
 | cons a b => simp
theorem text2 {nm t : List UInt8} {n op : Int} {l : List N} : bareN (.mk op nm n t l) false true = (nm == [] && n == 0 && decide (t.length <= 4096)):=by
 show ((false || nm == []) && n == 0 && (true || t == []) && (!false || named nm) && decide (t.length <= 4096)) = _
 generalize (nm == []) = a;generalize (n == 0) = b;generalize decide (t.length <= 4096) = c;generalize (t == []) = d;generalize named nm = e
 revert a b c d e;decide
theorem text3 {nm t : List UInt8} {n op : Int} {l : List N} : (bareN (.mk op nm n t l) true true && named t) = (isName nm && n == 0 && isName t):=by
 show (((true || nm == []) && n == 0 && (true || t == []) && (!true || named nm) && decide (t.length <= 4096)) && named t) = _
 rw [isName_named,isName_named]
 cases h : named t with
 | false => simp
 | true =>
  have:=named_len h
  have h2 : decide (t.length <= 4096) = true:=by simp;omega
  rw [h2]
  generalize (nm == []) = a;generalize (n == 0) = b;generalize (t == []) = d;generalize named nm = e
  revert a b d e;decide
theorem are1 {p : N -> Bool} {l : List N} : are l [p] = (l.length == 1 && l.all p):=by
 match l with
 | [] => rfl
 | [a] => simp [are]
 | a :: b :: l => simp [are]
theorem are2 {p q : N -> Bool} {l : List N} : are l [p,q] = (match l with
  | [a,b] => p a && q b
  | _ => false):=by
 match l with
 | [] => rfl
 | [a] => simp [are]
 | [a,b] => simp [are]
 | a :: b :: c :: l => simp [are]
theorem are3 {p q r : N -> Bool} {l : List N} : are l [p,q,r] = (match l with
  | [a,b,c] => p a && q b && r c
  | _ => false):=by
 match l with
 | [] => rfl
 | [a] => simp [are]
 | [a,b] => simp [are]
 | [a,b,c] => simp [are,Bool.and_assoc]
 | a :: b :: c :: d :: l => simp [are]
theorem len0 (l : List N) : ((l.length : Int) == 0) = (l.length == 0):=by cases l <;> simp <;> omega
theorem len0_wf (l : List N) : (l.length == 0 && wfL l) = (l.length == 0):=by cases l <;> simp [wfL]
theorem eqs_x {m : Nat} (H : Eqs m) (op n : Int) (nm t : List UInt8) (l : List N) (h : (N.mk op nm n t l).size < m + 1) : rX (.mk op nm n t l) = (kExpr (.mk op nm n t l) && wf (.mk op nm n t l)):=by
 have hx : rXs l = (l.all kExpr && wfL l):=by
  rw [rXs_all,wfL_all];exact all_and (fun v hv => H.x v (kids_lt h v hv))
 have hp : rPs l = (l.all kPair && wfL l):=by
  have : ∀ k : List N,(∀ v ∈ k,v.size < m) -> rPs k = (k.all kPair && wfL k):=by
   intro k
   induction k with
   | nil => intro _;rw [rPs,wfL];rfl
   | cons v k ih =>
    intro hk
    obtain ⟨op',nm',n',t',k'⟩:=v
    have hv:=hk _ List.mem_cons_self
    have hkk : rXs k' = (k'.all kExpr && wfL k'):=by
     rw [rXs_all,wfL_all]
     refine all_and (fun v hv' => H.x v ?_)
     have:=N.size_mem hv'
     rw [N.size_mk] at hv;omega
    rw [rPs,wfL,ih (fun u hu => hk u (List.mem_cons_of_mem _ hu)),wf_mk,text2,hkk,List.all_cons]
    by_cases h9 : op' = 9
    ·
     subst h9
     rw [show fields 9 nm' n' t' = (nm' == [] && n' == 0 && decide (t'.length <= 4096)) from rfl,show kidsOk 9 k' = (are k' [kExpr] || false) from rfl,are1,show kPair (.mk 9 nm' n' t' k') = true from rfl]
     generalize (nm' == [] && n' == 0 && decide (t'.length <= 4096)) = b1
     generalize (k'.length == 1) = b2
     generalize k'.all kExpr = b3
     generalize wfL k' = b4
     generalize k.all kPair = b5
     generalize wfL k = b6
     cases b1 <;> cases b2 <;> cases b3 <;> cases b4 <;> cases b5 <;> cases b6 <;> rfl
    ·
     have e1 : (op' == 9) = false:=by simp [h9]
     rw [e1,show kPair (.mk op' nm' n' t' k') = (op' == 9) from rfl,e1]
     simp
  exact this l (kids_lt h)
 by_cases hk : kExpr (.mk op nm n t l) = true
 ·
  have hk' : (decide (1 <= op) && decide (op <= 29) && (op != 9)) = true:=hk
  simp only [Bool.and_eq_true,decide_eq_true_eq,bne_iff_ne,ne_eq] at hk'
  obtain ⟨⟨g1,g2⟩,g3⟩:=hk'
  rw [hk,wf_mk,rX]
  have hop : op = 1 \/ op = 2 \/ op = 3 \/ op = 4 \/ op = 5 \/ op = 6 \/ op = 7 \/ op = 8 \/ op = 10 \/ op = 11 \/ op = 12 \/ op = 13 \/ op = 14 \/ op = 15 \/ op = 16 \/ op = 17 \/ op = 18 \/ op = 19 \/ op = 20 \/ op = 21 \/ op = 22 \/ op = 23 \/ op = 24 \/ op = 25 \/ op = 26 \/ op = 27 \/ op = 28 \/ op = 29:=by omega
  have hl0:=len0_wf l
  have e2 : are l [kExpr,kExpr] = (l.length == 2 && l.all kExpr):=by
   rw [are2]
   match l with
   | [] => rfl
   | [a] => simp
   | [a,b] => simp
   | a :: b :: c :: l => simp
  rcases hop with h | h | h | h | h | h | h | h | h | h | h | h | h | h | h | h | h | h | h | h | h | h | h | h | h | h | h | h <;> subst h <;>
   simp only [fields,kidsOk,exprKids,stmtKids,text0,text1,text2,hx,hp,are1,e2,len0,List.mem_cons,List.not_mem_nil,or_false,Int.reduceEq,false_or,or_true,true_or,if_true,if_false,Bool.or_false,Bool.true_and,Int.reduceLE,decide_true] <;>
   (generalize (nm == []) = b1;generalize (n == 0) = b2;generalize (t == []) = b3;generalize isName nm = b4;generalize l.all kExpr = b5;generalize l.all kPair = b6;generalize decide (t.length <= 4096) = b7;generalize decide (0 <= n) = b8;
       revert hl0;generalize wfL l = b9;generalize (l.length == 0) = b10;generalize (l.length == 1) = b11;generalize (l.length == 2) = b12;clear hx hp e2;intro hl0;cases b10 <;> cases b9 <;> first | (exact absurd hl0 (by decide)) | (simp;done) | ac_rfl | (simp;ac_rfl))
 ·
  have hkf : kExpr (.mk op nm n t l) = false:=by simpa using hk
  rw [hkf,Bool.false_and,rX]
  have hkg : (decide (1 <= op) && decide (op <= 29) && (op != 9)) = false:=hkf
  simp only [Bool.and_eq_false_iff,decide_eq_false_iff_not,bne_eq_false_iff_eq] at hkg
  rw [if_neg (by omega),if_neg (by omega),if_neg (by omega),if_neg (by omega),if_neg (by omega),if_neg (by omega),if_neg (by omega),if_neg (by omega),if_neg (by omega)]
  have : (decide (15 <= op) && decide (op <= 28)) = false:=by
   rw [Bool.and_eq_false_iff,decide_eq_false_iff_not,decide_eq_false_iff_not];omega
  rw [this];rfl
theorem eqs_b {m : Nat} (H : Eqs m) (op n : Int) (nm t : List UInt8) (l : List N) (h : (N.mk op nm n t l).size < m + 1) : rB (.mk op nm n t l) = (kBlock (.mk op nm n t l) && wf (.mk op nm n t l)):=by
 have hx : rSs l = (l.all kStmt && wfL l):=by
  rw [rSs_all,wfL_all];exact all_and (fun v hv => H.s v (kids_lt h v hv))
 rw [rB,wf_mk,text0,hx,show kBlock (.mk op nm n t l) = (op == 53) from rfl]
 by_cases ho : op = 53
 ·
  subst ho
  rw [show fields 53 nm n t = (nm == [] && n == 0 && t == []) from rfl,show kidsOk 53 l = l.all kStmt from rfl]
  ac_rfl
 ·
  rw [show (op == 53) = false by simp [ho]]
  simp
theorem kAlt_eq (v : N) : (kBlock v || (v.op == 42 && kStmt v)) = kAlt v:=by
 unfold kAlt kStmt
 by_cases h : v.op = 42
 ·
  rw [h];rfl
 ·
  rw [show (v.op == 42) = false by simp [h]]
  simp
def brs : Nat -> List N -> Bool
 | _,[] => true
 | i,v :: l => ((v.op == 51 && l.isEmpty) || (v.op == 50 && decide (i < 16))) && brs (i + 1) l
theorem brs_eq : ∀ (l : List N) (i : Nat) (h : 0 < l.length),i <= 16 -> brs i l = (if (l[l.length - 1]).op = 51 then decide (i + (l.length - 1) <= 16) && (l.take (l.length - 1)).all kCase else decide (i + l.length <= 16) && l.all kCase)
 | [],i,h,_ => absurd h (by simp)
 | [v],i,_,hi => by
  rw [brs,brs]
  simp only [List.length_cons,List.length_nil,List.isEmpty_nil,Bool.and_true]
  show (v.op == 51 || v.op == 50 && decide (i < 16)) = if v.op = 51 then _ else _
  by_cases h : v.op = 51
  ·
   rw [if_pos h,h]
   have : decide (i + (0 + 1 - 1) <= 16) = true:=by simp;omega
   rw [this];rfl
  ·
   rw [if_neg h,show (v.op == 51) = false by simp [h],show [v].all kCase = (v.op == 50) by simp [kCase]]
   have : decide (i < 16) = decide (i + (0 + 1) <= 16):=by rw [decide_eq_decide];omega
   rw [this,Bool.false_or,Bool.and_comm]
 | v :: u :: l,i,_,hi => by
  have hlast : (v :: u :: l)[(v :: u :: l).length - 1] = (u :: l)[(u :: l).length - 1]'(by simp):=by simp
  have htake : (v :: u :: l).take ((v :: u :: l).length - 1) = v :: (u :: l).take ((u :: l).length - 1):=by simp
  rw [brs,hlast,htake]
  simp only [List.isEmpty_cons,Bool.and_false,Bool.false_or]
  by_cases h16 : i < 16
  ·
   rw [brs_eq (u :: l) (i + 1) (by simp) (by omega)]
   have e1 : decide (i + 1 + ((u :: l).length - 1) <= 16) = decide (i + ((v :: u :: l).length - 1) <= 16):=by rw [decide_eq_decide];simp;omega
   have e2 : decide (i + 1 + (u :: l).length <= 16) = decide (i + (v :: u :: l).length <= 16):=by rw [decide_eq_decide];simp;omega
   rw [e1,e2,show decide (i < 16) = true by simp [h16],Bool.and_true]
   split
   ·
    rw [List.all_cons (l:=List.take _ _),show kCase v = (v.op == 50) from rfl];ac_rfl
   ·
    rw [List.all_cons (a:=v),show kCase v = (v.op == 50) from rfl];ac_rfl
  ·
   have e0 : decide (i < 16) = false:=by simp;omega
   have e1 : decide (i + ((v :: u :: l).length - 1) <= 16) = false:=by simp;omega
   have e2 : decide (i + (v :: u :: l).length <= 16) = false:=by simp;omega
   rw [e0,e1,e2]
   simp
theorem branches_brs (l : List N) : branches l = (decide (0 < l.length) && brs 0 l):=by
 unfold branches
 by_cases h : 0 < l.length
 ·
  rw [dif_pos h,brs_eq l 0 h (by omega),show decide (0 < l.length) = true by simp [h],Bool.true_and]
  have e1 : decide ((l.take (l.length - 1)).length <= 16) = decide (0 + (l.length - 1) <= 16):=by rw [decide_eq_decide,List.length_take];omega
  have e2 : decide (l.length <= 16) = decide (0 + l.length <= 16):=by rw [decide_eq_decide];omega
  rw [e1,e2]
 ·
  rw [dif_neg h,show decide (0 < l.length) = false by simp at h |-;omega]
  rfl
theorem wh_eq {m : Nat} (H : Eqs m) {l : List N} (hl : ∀ v ∈ l,v.size < m) : rWh l = (are l [kExpr,kBlock] && wfL l):=by
 match l,hl with
 | [],_ => simp [rWh,are]
 | [a],_ => simp [rWh,are]
 | [a,b],hl =>
  rw [rWh,are2,H.x a (hl a (by simp)),H.b b (hl b (by simp)),wfL,wfL,wfL]
  simp only []
  generalize kExpr a = x;generalize kBlock b = y;generalize wf a = z;generalize wf b = u
  revert x y z u;decide
 | a :: b :: c :: l,_ => simp [rWh,are]
theorem el_eq {m : Nat} (H : Eqs m) {l : List N} (hl : ∀ v ∈ l,v.size < m) : rEl l = (are l [kBlock] && wfL l):=by
 match l,hl with
 | [],_ => simp [rEl,are]
 | [a],hl =>
  rw [rEl,H.b a (hl a (by simp)),wfL,wfL]
  simp [are]
 | a :: b :: l,_ => simp [rEl,are]
theorem if_eq {m : Nat} (H : Eqs m) {l : List N} (hl : ∀ v ∈ l,v.size < m) : rIf l = ((are l [kExpr,kBlock] || are l [kExpr,kBlock,kAlt]) && wfL l):=by
 match l,hl with
 | [],_ => simp [rIf,are]
 | [a],_ => simp [rIf,are]
 | [a,b],hl =>
  rw [rIf,are2,are3,H.x a (hl a (by simp)),H.b b (hl b (by simp)),wfL,wfL,wfL]
  simp only []
  generalize kExpr a = x;generalize kBlock b = y;generalize wf a = z;generalize wf b = u
  revert x y z u;decide
 | [a,b,c],hl =>
  rw [rIf,are2,are3,H.x a (hl a (by simp)),H.b b (hl b (by simp)),H.b c (hl c (by simp)),H.s c (hl c (by simp)),wfL,wfL,wfL,wfL]
  simp only []
  rw [<- kAlt_eq]
  generalize kExpr a = x;generalize kBlock b = y;generalize wf a = z;generalize wf b = u;generalize kBlock c = x2;generalize kStmt c = y2;generalize wf c = z2;generalize (c.op == 42) = u2
  revert x y z u x2 y2 z2 u2;decide
 | a :: b :: c :: d :: l,_ => simp [rIf,are]
theorem cs_eq {m : Nat} (H : Eqs m) : ∀ (l : List N) (i : Nat),(∀ v ∈ l,v.size < m) -> rCs i l = (brs i l && wfL l)
 | [],i,_ => by rw [rCs,brs,wfL];rfl
 | .mk op nm n t k :: l,i,hl => by
  have hv:=hl _ List.mem_cons_self
  have hk : ∀ v ∈ k,v.size < m:=fun v hv' => by
   have:=N.size_mem hv'
   rw [N.size_mk] at hv;omega
  rw [rCs,brs,wfL,cs_eq H l (i + 1) (fun u hu => hl u (List.mem_cons_of_mem _ hu)),wf_mk,el_eq H hk,wh_eq H hk]
  rw [show (N.mk op nm n t k).op = op from rfl]
  by_cases h1 : op = 51
  ·
   subst h1
   rw [text0,show fields 51 nm n t = (nm == [] && n == 0 && t == []) from rfl,show kidsOk 51 k = are k [kBlock] from rfl]
   rw [show ((51 : Int) == 51) = true from rfl,show ((51 : Int) == 50) = false from rfl]
   generalize (nm == [] && n == 0 && t == []) = a;generalize l.isEmpty = b;generalize are k [kBlock] = c;generalize wfL k = d;generalize brs (i + 1) l = e;generalize wfL l = f;simp only [Bool.false_and,Bool.or_false]
   revert a b c d e f;decide
  ·
   by_cases h2 : op = 50
   ·
    subst h2
    have hb : bareN (.mk 50 nm n t k) (nm != []) false = ((nm == [] || isName nm) && n == 0 && t == []):=by
     cases nm with
     | nil => exact text0
     | cons a b => rw [show (a :: b != ([] : List UInt8)) = true from rfl,text1];rfl
    rw [hb,show fields 50 nm n t = ((nm == [] || isName nm) && n == 0 && t == []) from rfl,show kidsOk 50 k = are k [kExpr,kBlock] from rfl]
    rw [show ((50 : Int) == 51) = false from rfl,show ((50 : Int) == 50) = true from rfl]
    generalize ((nm == [] || isName nm) && n == 0 && t == []) = a;generalize decide (i < 16) = b;generalize are k [kExpr,kBlock] = c;generalize wfL k = d;generalize brs (i + 1) l = e;generalize wfL l = f;simp only [Bool.false_and,Bool.false_or]
    revert a b c d e f;decide
   ·
    rw [show (op == 51) = false by simp [h1],show (op == 50) = false by simp [h2]]
    simp
theorem eqs_s {m : Nat} (H : Eqs m) (op n : Int) (nm t : List UInt8) (l : List N) (h : (N.mk op nm n t l).size < m + 1) : rS (.mk op nm n t l) = (kStmt (.mk op nm n t l) && wf (.mk op nm n t l)):=by
 have hk:=kids_lt h
 have hx : rXs l = (l.all kExpr && wfL l):=by
  rw [rXs_all,wfL_all];exact all_and (fun v hv => H.x v (hk v hv))
 have hb : rBs l = (l.all kBlock && wfL l):=by
  rw [rBs_all,wfL_all];exact all_and (fun v hv => H.b v (hk v hv))
 have hif:=if_eq H hk
 have hwh:=wh_eq H hk
 have hcs:=cs_eq H l 0 hk
 have e2 : are l [kBlock,kBlock] = (l.length == 2 && l.all kBlock):=by
  rw [are2]
  match l with
  | [] => rfl
  | [a] => simp
  | [a,b] => simp
  | a :: b :: c :: l => simp
 have e3 : (are l [] || l.length == 1 && l.all kExpr) = (decide (l.length <= 1) && l.all kExpr):=by
  match l with
  | [] => rfl
  | [a] => simp [are]
  | a :: b :: l => simp [are]
 by_cases hs : kStmt (.mk op nm n t l) = true
 ·
  have hs' : (decide (40 <= op) && decide (op <= 52) && (op != 50) && (op != 51)) = true:=hs
  simp only [Bool.and_eq_true,decide_eq_true_eq,bne_iff_ne,ne_eq] at hs'
  obtain ⟨⟨⟨g1,g2⟩,g3⟩,g4⟩:=hs'
  rw [hs,wf_mk,rS]
  have hop : op = 40 \/ op = 41 \/ op = 42 \/ op = 43 \/ op = 44 \/ op = 45 \/ op = 46 \/ op = 47 \/ op = 48 \/ op = 49 \/ op = 52:=by omega
  rcases hop with h | h | h | h | h | h | h | h | h | h | h <;> subst h <;>
   simp only [fields,kidsOk,exprKids,stmtKids,text0,text1,text2,hx,hb,hif,hwh,hcs,e3,branches_brs,are1,e2,List.mem_cons,List.not_mem_nil,or_false,Int.reduceEq,false_or,or_true,true_or,if_true,if_false,Bool.or_false,Bool.false_or,Bool.true_and] <;>
   ac_rfl
 ·
  have hkf : kStmt (.mk op nm n t l) = false:=by simpa using hs
  rw [hkf,Bool.false_and,rS]
  have hkg : (decide (40 <= op) && decide (op <= 52) && (op != 50) && (op != 51)) = false:=hkf
  simp only [Bool.and_eq_false_iff,decide_eq_false_iff_not,bne_eq_false_iff_eq] at hkg
  rw [if_neg (by omega),if_neg (by omega),if_neg (by omega),if_neg (by omega),if_neg (by omega),if_neg (by omega),if_neg (by omega),if_neg (by omega),if_neg (by omega)]
theorem eqs_all : ∀ m,Eqs m
 | 0 => ⟨fun _ h => absurd h (Nat.not_lt_zero _),fun _ h => absurd h (Nat.not_lt_zero _),fun _ h => absurd h (Nat.not_lt_zero _)⟩
 | m + 1 => ⟨fun ⟨op,nm,n,t,l⟩ h => eqs_x (eqs_all m) op n nm t l h,fun ⟨op,nm,n,t,l⟩ h => eqs_b (eqs_all m) op n nm t l h,fun ⟨op,nm,n,t,l⟩ h => eqs_s (eqs_all m) op n nm t l h⟩
theorem rX_eq (v : N) : rX v = (kExpr v && wf v):=(eqs_all _).x v (Nat.lt_succ_self _)
theorem rB_eq (v : N) : rB v = (kBlock v && wf v):=(eqs_all _).b v (Nat.lt_succ_self _)
theorem rK_eq (v : N) : rK v = (kConst v && wf v):=by
 unfold rK
 rw [rX_eq]
 unfold kConst kExpr
 by_cases h : v.op = 14
 ·
  rw [if_pos h,h]
  show (true && wf v && oneInt v.l) = (oneInt v.l && wf v)
  simp [Bool.and_comm]
 ·
  rw [if_neg h,show (v.op == 14) = false by simp [h]]
  by_cases h2 : 1 <= v.op /\ v.op <= 5
  ·
   have h3 : v.op = 1 \/ v.op = 2 \/ v.op = 3 \/ v.op = 4 \/ v.op = 5:=by omega
   rcases h3 with h3 | h3 | h3 | h3 | h3 <;> rw [h3] <;> simp
  ·
   have e : (decide (1 <= v.op) && decide (v.op <= 5)) = false:=by rw [Bool.and_eq_false_iff,decide_eq_false_iff_not,decide_eq_false_iff_not];omega
   have e1 : (v.op == 1) = false:=by simp;omega
   have e2 : (v.op == 2) = false:=by simp;omega
   have e3 : (v.op == 3) = false:=by simp;omega
   have e4 : (v.op == 4) = false:=by simp;omega
   have e5 : (v.op == 5) = false:=by simp;omega
   rw [e1,e2,e3,e4,e5,Bool.and_assoc _ (decide (1 <= v.op)),e]
   simp
theorem par_eq : ∀ l : List N,rPar l = (paramsBlock l && wfL l)
 | [] => rfl
 | [b] => by
  rw [rPar,rB_eq,paramsBlock_at (j:=0) (by simp) (by simp),wfL,wfL]
  simp
 | a :: b :: l => by
  have h1 : paramsBlock (a :: b :: l) = (kParam a && paramsBlock (b :: l)):=by
   rw [paramsBlock_at (l:=a :: b :: l) (j:=l.length + 1) (by simp) (by simp),paramsBlock_at (l:=b :: l) (j:=l.length) (by simp) (by simp)]
   simp [Bool.and_assoc]
  rw [rPar,par_eq (b :: l),h1,rX_eq,show wfL (a :: b :: l) = (wf a && wfL (b :: l)) by rw [wfL]]
  ·
   have : (a.op == 6 && (kExpr a && wf a)) = (kParam a && wf a):=by
    unfold kParam kExpr
    by_cases h : a.op = 6
    ·
     rw [h];simp
    ·
     rw [show (a.op == 6) = false by simp [h]];simp
   rw [this]
   generalize kParam a = x;generalize wf a = y;generalize paramsBlock (b :: l) = z;generalize wfL (b :: l) = u
   revert x y z u;decide
  ·
   simp
theorem rD_eq (v : N) : rD v = (kDecl v && wf v):=by
 obtain ⟨op,nm,n,t,l⟩:=v
 have hb : rBs l = (l.all kBlock && wfL l):=by
  rw [rBs_all,wfL_all];exact all_and (fun v _ => rB_eq v)
 have hc : rVar l = (are l [kConst] && wfL l):=by
  match l with
  | [] => rfl
  | [a] => simp only [rVar,are,wfL];rw [rK_eq];simp
  | a :: b :: l => simp [rVar,are1]
 have e2 : (l.length == 1 && l.all kBlock || are l [kBlock,kBlock]) = (decide (1 <= l.length) && decide (l.length <= 2) && l.all kBlock):=by
  match l with
  | [] => rfl
  | [a] => simp [are]
  | [a,b] => simp [are]
  | a :: b :: c :: l => simp [are]
 unfold rD
 show (if op = 61 then bareN (.mk op nm n t l) true false && rVar l
 else if op = 62 then bareN (.mk op nm n t l) true false && rPar l
 else if op = 63 \/ op = 64 then bareN (.mk op nm n t l) true true && named t && l.length == 1 && rBs l
 else if op = 65 then bareN (.mk op nm n t l) true true && named t && decide (1 <= l.length) && decide (l.length <= 2) && rBs l
 else false) = _
 rw [hc,wf_mk,text1,text3,par_eq,hb]
 by_cases hs : kDecl (.mk op nm n t l) = true
 ·
  have hs' : (decide (61 <= op) && decide (op <= 65)) = true:=hs
  simp only [Bool.and_eq_true,decide_eq_true_eq] at hs'
  have hop : op = 61 \/ op = 62 \/ op = 63 \/ op = 64 \/ op = 65:=by omega
  rw [hs]
  rcases hop with h | h | h | h | h <;> subst h <;>
   simp only [fields,kidsOk,are1,e2,List.mem_cons,List.not_mem_nil,or_false,Int.reduceEq,false_or,or_true,true_or,if_true,if_false,Bool.or_false,Bool.false_or,Bool.true_and] <;>
   ac_rfl
 ·
  have hkf : kDecl (.mk op nm n t l) = false:=by simpa using hs
  have hkg : (decide (61 <= op) && decide (op <= 65)) = false:=hkf
  simp only [Bool.and_eq_false_iff,decide_eq_false_iff_not] at hkg
  rw [hkf,Bool.false_and,if_neg (by omega),if_neg (by omega),if_neg (by omega),if_neg (by omega)]
theorem fit_eq (v : N) : fit v 1 0 = decide (v.size <= 4000 /\ v.depth <= 40):=by
 unfold fit
 rw [decide_eq_decide]
 omega
theorem rRight_eq (v : N) : rRight v = right v:=by
 obtain ⟨op,nm,n,t,l⟩:=v
 unfold rRight right
 rw [fit_eq,wf_mk,text0]
 have h : l.all rD = (l.all kDecl && wfL l):=by rw [wfL_all];exact all_and (fun v _ => rD_eq v)
 show (op == 60 && _ && _ && l.all rD) = (op == 60 && _ && _)
 rw [h]
 by_cases ho : op = 60
 ·
  subst ho
  rw [show fields 60 nm n t = (nm == [] && n == 0 && t == []) from rfl,show kidsOk 60 l = l.all kDecl from rfl]
  ac_rfl
 ·
  rw [show (op == 60) = false by simp [ho]]
  rfl
theorem rRightX_eq (v : N) : rRightX v = rightX v:=by
 unfold rRightX rightX
 rw [fit_eq,rX_eq]
 ac_rfl
end Sy
end Go.Proofs.YtgeppafcemeidaaGreatDoor
namespace Go.Proofs.YtgeppafcemeidaaGreatDoor
open Go.RowKit
def RdS (w : World) (g : Nat) (l : List (List UInt8)) : Prop:=∀ (i : Nat) (s : List UInt8),l[i]? = some s -> w.cell? ⟨g,i,none⟩ = some (.string ⟨s.toArray⟩)
theorem RdS.below {w w' : World} {g : Nat} {l : List (List UInt8)} (h : RdS w g l) (hb : Below w.heap.size w w') : RdS w' g l :=
 fun i s hi => (hb.cell (World.block_lt_of_cell? w _ (h i s hi))).trans (h i s hi)
theorem rds_new (w : World) (l : List (List UInt8)) : RdS (w.alloc (.cells (l.map fun s => Value.string ⟨s.toArray⟩).toArray 9)) w.heap.size l:=by
 intro i s hi
 rw [World.cell?_alloc_mark]
 simp [hi]
theorem keywords_any (w : World) : Calls Tryz.prog 173 #[] w fun e w' => e = .returned (.slice (some ⟨w.heap.size,0,none⟩) 27 27) /\ Below w.heap.size w w' /\ RdS w' w.heap.size Tk.kws:=by
 go_enter Tryz.func173,Tryz.ntmps173
 go_wp2_with fail
 go_ret
 exact ⟨rfl,(Below.refl _ _).alloc (Nat.le_refl _) _,rds_new w Tk.kws⟩
theorem take_not {l : List (List UInt8)} {s : List UInt8} {k : Nat} (h : k < l.length) (h1 : (l.take k).contains s = false) (h2 : l[k] ≠ s) : (l.take (k + 1)).contains s = false:=by
 rw [List.take_succ_eq_append_getElem h]
 simp only [List.contains_eq_any_beq,List.any_append,Bool.or_eq_false_iff] at h1 |-
 refine ⟨h1,?_⟩
 simp only [List.any_cons,List.any_nil,Bool.or_false,beq_eq_false_iff_ne]
 exact fun e => h2 e.symm
theorem rkw_any (l : List UInt8) (w : World) :
  Calls Tryz.prog 142 #[.string ⟨l.toArray⟩] w fun e w' => e = .returned (.bool (Tk.kw l)) /\ Below w.heap.size w w':=by
 have h27 : Tk.kws.length = 27:=rfl
 have HK : Hid (Tk.kw l = Tk.kws.contains l):=rfl
 have CK:=hid (keywords_any w)
 generalize Tk.kw l = b at *
 generalize Tk.kws = ks at *
 go_enter Tryz.func142,Tryz.ntmps142
 go_wp2_with fail
 refine CK.out.mono ?_
 rintro e w1 ⟨rfl,hb1,hr⟩
 have HB1:=hid hb1
 have HR:=hid hr
 clear hb1 hr
 go_wp2_with fail
 go_loop [7] (fun v7 => ∃ k : Nat,k <= 27 /\ v7 = .int .i64 (k : Int) /\ Hid ((ks.take k).contains l = false)) (fun v7 => 27 - (intOf v7).toNat)
 case atStart => exact ⟨0,by omega,rfl,by simp [Hid]⟩
 case round =>
  obtain ⟨k,hk,rfl,ht⟩:=hrel
  by_cases hlt : k < 27
  ·
   have hkl : k < ks.length:=by omega
   have hc:=HR.out k ks[k] (List.getElem?_eq_getElem hkl)
   by_cases he : ks[k] = l
   ·
    have HE : Hid (b = true):=by
     show _ = _
     rw [HK.out,<- he]
     simp
    have hd : (ks[k] == l) = true:=by simpa using he
    clear he
    go_wp2_with fail
    go_ret
    rw [HE.out]
    exact ⟨rfl,HB1.out⟩
   ·
    have HS:=hid (take_not hkl ht.out he)
    have hd : (ks[k] == l) = false:=by simpa using he
    clear he
    go_wp2_with fail
    refine ⟨⟨k + 1,by omega,by go_num,HS.out⟩,?_⟩
    simp [intOf];omega
  ·
   have hk2 : k = 27:=by omega
   have HE : Hid (b = false):=by
    have h:=ht.out
    rw [List.take_of_length_le (by omega)] at h
    show _ = _
    rw [HK.out,h]
   clear ht
   subst hk2
   go_wp2_with fail
   go_ret
   rw [HE.out]
   exact ⟨rfl,HB1.out⟩
end Go.Proofs.YtgeppafcemeidaaGreatDoor
namespace Go.Proofs.YtgeppafcemeidaaGreatDoor
open Go.RowKit
open Sy (N)
open Tk (T)
theorem letter8_any (c : UInt8) (w : World) : Calls Tryz.prog 157 #[.int .u8 (c.toNat : Int)] w fun e w' => e = .returned (.bool (Tk.letter c)) /\ w = w':=by
 have hd : Hid (Tk.letter c = (((decide (97 <= c.toNat) && decide (c.toNat <= 122)) || (decide (65 <= c.toNat) && decide (c.toNat <= 90))) || decide (c.toNat = 95))):=rfl
 have hc:=c.toNat_lt
 generalize Tk.letter c = b at *
 generalize c.toNat = m at *
 go_enter Tryz.func157,Tryz.ntmps157
 go_wp2
 all_goals go_ret
 all_goals refine ⟨congrArg (fun b => Ending.returned (Value.bool b)) ?_,rfl⟩
 all_goals rw [hd.out,Bool.eq_iff_iff]
 all_goals simp
 all_goals omega
namespace Sy
theorem all_pre {l : List UInt8} {k : Nat} (h : k < l.length) (h1 : (l.take k).all Tk.wordc = true) (h2 : Tk.wordc l[k] = true) : (l.take (k + 1)).all Tk.wordc = true:=by
 rw [List.take_succ_eq_append_getElem h,List.all_append,h1];simp [h2]
theorem all_not {l : List UInt8} {k : Nat} (h : k < l.length) (h2 : Tk.wordc l[k] = false) : l.all Tk.wordc = false:=by
 rw [List.all_eq_false]
 exact ⟨l[k],List.getElem_mem h,by simp [h2]⟩
theorem wordc_digit {c : UInt8} (h : Tk.letter c = false) : Tk.wordc c = (decide (48 <= c.toNat) && decide (c.toNat <= 57)):=by unfold Tk.wordc;rw [h];rfl
theorem wordc_letter {c : UInt8} (h : Tk.letter c = true) : Tk.wordc c = true:=by unfold Tk.wordc;rw [h];rfl
end Sy
theorem named8_any (l : List UInt8) (w : World) (hl : l.length <= 9223372036854775807) : Calls Tryz.prog 113 #[.string ⟨l.toArray⟩] w fun e w' => e = .returned (.bool (Sy.named l)) /\ Below w.heap.size w w':=by
 cases hlc : l with
 | nil =>
  have h0 : (([] : List UInt8) == []) = true:=rfl
  go_enter Tryz.func113,Tryz.ntmps113
  go_wp2_with fail
  go_ret
  exact ⟨rfl,Below.refl _ _⟩
 | cons c r =>
  rw [<- hlc]
  have h0 : (l == []) = false:=by rw [hlc];rfl
  have hpos : 0 < l.length:=by rw [hlc];simp
  have hsz : (ByteArray.mk l.toArray).size = l.length:=by simp [ByteArray.size]
  have hg : Hid (∀ (k : Nat) (h : k < (ByteArray.mk l.toArray).size),(ByteArray.mk l.toArray)[k] = l[k]'(by rw [<- hsz];exact h)):=fun k h => by simp [ByteArray.getElem_eq_getElem_data]
  have hgc : Hid ((ByteArray.mk l.toArray)[0]'(by rw [hsz];exact hpos) = c):=by
   have:=hg.out 0 (by rw [hsz];exact hpos)
   show _ = _
   rw [this];simp [hlc]
  have HN : Hid (Sy.named l = (decide (l.length <= 64) && Tk.letter c && !Tk.kw l && l.all Tk.wordc)):=by rw [hlc];rfl
  have CL:=hid (fun (k : Nat) (h : k < (ByteArray.mk l.toArray).size) W => letter8_any ((ByteArray.mk l.toArray)[k]) W)
  have CK:=hid (rkw_any l w)
  clear hlc
  have hp0 : 0 < (ByteArray.mk l.toArray).size:=by rw [hsz];exact hpos
  by_cases h64 : l.length <= 64
  rotate_left
  ·
   have hd : Sy.named l = false:=by rw [HN.out,show decide (l.length <= 64) = false by simp [h64]];rfl
   rw [hd]
   clear hd
   go_enter Tryz.func113,Tryz.ntmps113
   go_wp2_with fail
   go_ret
   exact ⟨rfl,Below.refl _ _⟩
  cases hL : Tk.letter c with
  | false =>
   have hd : Sy.named l = false:=by rw [HN.out,hL];simp
   rw [hd]
   have hL0 : Tk.letter ((ByteArray.mk l.toArray)[0]'hp0) = false:=by rw [hgc.out];exact hL
   have C0:=hid (CL.out 0 hp0 w)
   rw [hL0] at C0
   clear hd hL hL0
   go_enter Tryz.func113,Tryz.ntmps113
   go_wp2_with (go_at_call 157;refine C0.out.mono ?_;rintro e w1 ⟨rfl,rfl⟩)
   go_ret
   exact ⟨rfl,Below.refl _ _⟩
  | true =>
   have hL0 : Tk.letter ((ByteArray.mk l.toArray)[0]'hp0) = true:=by rw [hgc.out];exact hL
   have C0:=hid (CL.out 0 hp0 w)
   rw [hL0] at C0
   cases hK : Tk.kw l with
   | true =>
    have hd : Sy.named l = false:=by rw [HN.out,hK];simp
    rw [hd]
    rw [hK] at CK
    clear hd hL hL0 hK
    go_enter Tryz.func113,Tryz.ntmps113
    go_wp2_with (first | (go_at_call 157;refine C0.out.mono ?_;rintro e w1 ⟨rfl,rfl⟩) | (go_at_call 142;refine CK.out.mono ?_;rintro e w1 ⟨rfl,hb1⟩;have HB:=hid hb1;clear hb1))
    go_ret
    exact ⟨rfl,HB.out⟩
   | false =>
    have HD : Hid (Sy.named l = l.all Tk.wordc):=by show _ = _;rw [HN.out,hK,hL,show decide (l.length <= 64) = true by simp [h64]];rfl
    rw [hK] at CK
    clear hL hL0 hK
    generalize Sy.named l = dd at HD |-
    go_enter Tryz.func113,Tryz.ntmps113
    go_wp2_with (first | (go_at_call 157;refine C0.out.mono ?_;rintro e w1 ⟨rfl,rfl⟩) | (go_at_call 142;refine CK.out.mono ?_;rintro e w1 ⟨rfl,hb1⟩;have HB:=hid hb1;clear hb1))
    go_loop [3] (fun v3 => ∃ k : Nat,k <= l.length /\ v3 = .int .i64 (k : Int) /\ Hid ((l.take k).all Tk.wordc = true)) (fun v3 => l.length - (intOf v3).toNat)
    case atStart => exact ⟨0,Nat.zero_le _,rfl,by show _ = _;simp⟩
    case round =>
     obtain ⟨k,hk,rfl,htk⟩:=hrel
     by_cases hlt : k < l.length
     ·
      have hks : k < (ByteArray.mk l.toArray).size:=by rw [hsz];exact hlt
      have hgk:=hid (hg.out k hks)
      have CLk:=hid (CL.out k hks)
      have HW : Hid (∀ b,Tk.wordc (l[k]'hlt) = b -> Tk.wordc ((ByteArray.mk l.toArray)[k]'hks) = b):=fun b hb => by rw [hgk.out];exact hb
      have HT:=hid (fun (h : Tk.wordc (l[k]'hlt) = true) => Sy.all_pre hlt htk.out h)
      have HF:=hid (fun (h : Tk.wordc (l[k]'hlt) = false) => Sy.all_not hlt h)
      have hcw : Tk.wordc (l[k]'hlt) = Tk.wordc ((ByteArray.mk l.toArray)[k]'hks):=by rw [hgk.out]
      rw [hcw] at HT HF
      clear hcw HW htk
      have hlt' : (k : Int) < (l.length : Int):=by omega
      cases hlb : Tk.letter ((ByteArray.mk l.toArray)[k]'hks) with
      | true =>
       rw [hlb] at CLk
       replace HT:=hid (HT.out (Sy.wordc_letter hlb))
       clear hlb HF
       go_wp2_with (go_at_call 157;refine (CLk.out _).mono ?_;rintro e w3 ⟨rfl,rfl⟩)
       refine ⟨⟨k + 1,by omega,by go_num,HT.out⟩,?_⟩
       simp [intOf];omega
      | false =>
       rw [hlb] at CLk
       have hwd:=Sy.wordc_digit hlb
       have hc256:=((ByteArray.mk l.toArray)[k]'hks).toNat_lt
       clear hlb
       by_cases hd1 : 48 <= ((ByteArray.mk l.toArray)[k]'hks).toNat
       ·
        by_cases hd2 : ((ByteArray.mk l.toArray)[k]'hks).toNat <= 57
        ·
         replace HT:=hid (HT.out (by rw [hwd];simp [hd1,hd2]))
         clear hwd HF
         go_wp2_with (go_at_call 157;refine (CLk.out _).mono ?_;rintro e w3 ⟨rfl,rfl⟩)
         refine ⟨⟨k + 1,by omega,by go_num,HT.out⟩,?_⟩
         simp [intOf];omega
        ·
         replace HF : Hid (dd = false):=HD.out.trans (HF.out (by rw [hwd];simp [hd2]))
         clear hwd HT
         go_wp2_with (go_at_call 157;refine (CLk.out _).mono ?_;rintro e w3 ⟨rfl,rfl⟩)
         go_ret
         exact ⟨ret_bool HF.out.symm,HB.out⟩
       ·
        replace HF : Hid (dd = false):=HD.out.trans (HF.out (by rw [hwd];simp [hd1]))
        clear hwd HT
        go_wp2_with (go_at_call 157;refine (CLk.out _).mono ?_;rintro e w3 ⟨rfl,rfl⟩)
        go_ret
        exact ⟨ret_bool HF.out.symm,HB.out⟩
     ·
      have hke : k = l.length:=by omega
      have HE : Hid (dd = true):=by
       have h:=htk.out
       rw [List.take_of_length_le (by omega)] at h
       show _ = _
       rw [HD.out,h]
      clear htk
      subst hke
      go_wp2_with fail
      go_ret
      exact ⟨ret_bool HE.out.symm,HB.out⟩
theorem bare_00 (op n : Int) (nm t : List UInt8) (l : List N) (A : Option Addr) (c : Nat) (w : World) (hnm : nm.length <= 9223372036854775807) (ht : t.length <= 9223372036854775807) :
  Calls Tryz.prog 64 #[.agg #[.int .i64 op,.string ⟨nm.toArray⟩,.int .i64 n,.string ⟨t.toArray⟩,.slice A l.length c],.bool false,.bool false] w fun e w' => e = .returned (.bool (Sy.bareN (.mk op nm n t l) false false)) /\ Below w.heap.size w w':=by
 have HD : Hid (Sy.bareN (.mk op nm n t l) false false = (nm == [] && n == 0 && t == [] && decide (t.length <= 4096))):=by
  show ((false || nm == []) && n == 0 && (false || t == []) && (!false || Sy.named nm) && decide (t.length <= 4096)) = _
  generalize (nm == []) = a;generalize (n == 0) = b;generalize decide (t.length <= 4096) = c;generalize (t == []) = d;generalize Sy.named nm = e
  revert a b c d e;decide
 generalize Sy.bareN (.mk op nm n t l) false false = dd at HD |-
 go_enter Tryz.func64,Tryz.ntmps64
 go_wp2_with fail
 all_goals go_ret
 all_goals exact ⟨ret_bool (by rw [HD.out];first | (simp_all;done) | (simp_all;omega) | (simp_all;intros;omega)),by first | exact HB.out | exact bl _⟩
theorem bare_01 (op n : Int) (nm t : List UInt8) (l : List N) (A : Option Addr) (c : Nat) (w : World) (hnm : nm.length <= 9223372036854775807) (ht : t.length <= 9223372036854775807) :
  Calls Tryz.prog 64 #[.agg #[.int .i64 op,.string ⟨nm.toArray⟩,.int .i64 n,.string ⟨t.toArray⟩,.slice A l.length c],.bool false,.bool true] w fun e w' => e = .returned (.bool (Sy.bareN (.mk op nm n t l) false true)) /\ Below w.heap.size w w':=by
 have HD : Hid (Sy.bareN (.mk op nm n t l) false true = (nm == [] && n == 0 && decide (t.length <= 4096))):=by
  show ((false || nm == []) && n == 0 && (true || t == []) && (!false || Sy.named nm) && decide (t.length <= 4096)) = _
  generalize (nm == []) = a;generalize (n == 0) = b;generalize decide (t.length <= 4096) = c;generalize (t == []) = d;generalize Sy.named nm = e
  revert a b c d e;decide
 generalize Sy.bareN (.mk op nm n t l) false true = dd at HD |-
 go_enter Tryz.func64,Tryz.ntmps64
 go_wp2_with fail
 all_goals go_ret
 all_goals exact ⟨ret_bool (by rw [HD.out];first | (simp_all;done) | (simp_all;omega) | (simp_all;intros;omega)),by first | exact HB.out | exact bl _⟩
theorem bare_10 (op n : Int) (nm t : List UInt8) (l : List N) (A : Option Addr) (c : Nat) (w : World) (hnm : nm.length <= 9223372036854775807) (ht : t.length <= 9223372036854775807) :
  Calls Tryz.prog 64 #[.agg #[.int .i64 op,.string ⟨nm.toArray⟩,.int .i64 n,.string ⟨t.toArray⟩,.slice A l.length c],.bool true,.bool false] w fun e w' => e = .returned (.bool (Sy.bareN (.mk op nm n t l) true false)) /\ Below w.heap.size w w':=by
 have HD : Hid (Sy.bareN (.mk op nm n t l) true false = (n == 0 && t == [] && Sy.named nm && decide (t.length <= 4096))):=by
  show ((true || nm == []) && n == 0 && (false || t == []) && (!true || Sy.named nm) && decide (t.length <= 4096)) = _
  generalize (nm == []) = a;generalize (n == 0) = b;generalize decide (t.length <= 4096) = c;generalize (t == []) = d;generalize Sy.named nm = e
  revert a b c d e;decide
 generalize Sy.bareN (.mk op nm n t l) true false = dd at HD |-
 have CN:=hid (fun W => named8_any nm W hnm)
 generalize Sy.named nm = nn at HD CN
 have x3 : (w.alloc (.cells #[.int .i64 op,.string ⟨nm.toArray⟩,.int .i64 n,.string ⟨t.toArray⟩,.slice A l.length c] 25)).cell? ⟨w.heap.size,3,none⟩ = some (.string ⟨t.toArray⟩):=by rw [World.cell?_alloc_mark];rfl
 by_cases hn : n = 0
 rotate_left
 ·
  have h0 : (n == 0) = false:=by simp [hn]
  have hf : dd = false:=by rw [HD.out,h0];rfl
  rw [hf]
  clear hf HD h0
  go_enter Tryz.func64,Tryz.ntmps64
  go_wp2_with fail
  go_ret
  exact ⟨rfl,bl _⟩
 subst hn
 cases ht0 : (t == [])
 ·
  have hf : dd = false:=by rw [HD.out,ht0];rfl
  rw [hf]
  clear hf HD
  go_enter Tryz.func64,Tryz.ntmps64
  go_wp2_with fail
  go_ret
  exact ⟨rfl,bl _⟩
 replace HD : Hid (dd = (nn && decide (t.length <= 4096))):=by show _ = _;rw [HD.out];rw [ht0];rfl
 go_enter Tryz.func64,Tryz.ntmps64
 go_wp2_with fail
 refine (CN.out _).mono ?_
 rintro e w1 ⟨rfl,hb1⟩
 have HB:=hid (bstep (bl _) hb1)
 have c3:=(hb1.cell (p:=⟨w.heap.size,3,none⟩) (by simp)).trans x3
 clear hb1 x3
 cases nn
 ·
  go_wp2_with fail
  go_ret
  exact ⟨ret_bool HD.out.symm,HB.out⟩
 ·
  go_wp2_with fail
  go_ret
  exact ⟨ret_bool (by rw [HD.out];simp;omega),HB.out⟩
theorem bare_11 (op n : Int) (nm t : List UInt8) (l : List N) (A : Option Addr) (c : Nat) (w : World) (hnm : nm.length <= 9223372036854775807) (ht : t.length <= 9223372036854775807) :
  Calls Tryz.prog 64 #[.agg #[.int .i64 op,.string ⟨nm.toArray⟩,.int .i64 n,.string ⟨t.toArray⟩,.slice A l.length c],.bool true,.bool true] w fun e w' => e = .returned (.bool (Sy.bareN (.mk op nm n t l) true true)) /\ Below w.heap.size w w':=by
 have HD : Hid (Sy.bareN (.mk op nm n t l) true true = (n == 0 && Sy.named nm && decide (t.length <= 4096))):=by
  show ((true || nm == []) && n == 0 && (true || t == []) && (!true || Sy.named nm) && decide (t.length <= 4096)) = _
  generalize (nm == []) = a;generalize (n == 0) = b;generalize decide (t.length <= 4096) = c;generalize (t == []) = d;generalize Sy.named nm = e
  revert a b c d e;decide
 generalize Sy.bareN (.mk op nm n t l) true true = dd at HD |-
 have CN:=hid (fun W => named8_any nm W hnm)
 generalize Sy.named nm = nn at HD CN
 have x3 : (w.alloc (.cells #[.int .i64 op,.string ⟨nm.toArray⟩,.int .i64 n,.string ⟨t.toArray⟩,.slice A l.length c] 25)).cell? ⟨w.heap.size,3,none⟩ = some (.string ⟨t.toArray⟩):=by rw [World.cell?_alloc_mark];rfl
 by_cases hn : n = 0
 rotate_left
 ·
  have h0 : (n == 0) = false:=by simp [hn]
  have hf : dd = false:=by rw [HD.out,h0];rfl
  rw [hf]
  clear hf HD h0
  go_enter Tryz.func64,Tryz.ntmps64
  go_wp2_with fail
  go_ret
  exact ⟨rfl,bl _⟩
 subst hn
 replace HD : Hid (dd = (nn && decide (t.length <= 4096))):=by show _ = _;rw [HD.out];rfl
 go_enter Tryz.func64,Tryz.ntmps64
 go_wp2_with fail
 refine (CN.out _).mono ?_
 rintro e w1 ⟨rfl,hb1⟩
 have HB:=hid (bstep (bl _) hb1)
 have c3:=(hb1.cell (p:=⟨w.heap.size,3,none⟩) (by simp)).trans x3
 clear hb1 x3
 cases nn
 ·
  go_wp2_with fail
  go_ret
  exact ⟨ret_bool HD.out.symm,HB.out⟩
 ·
  go_wp2_with fail
  go_ret
  exact ⟨ret_bool (by rw [HD.out];simp;omega),HB.out⟩
theorem bare_any (v : N) (nm tx : Bool) (a : Value) (w : World) (S : Nat -> Prop) (hv : NA w S a v) : Calls Tryz.prog 64 #[a,.bool nm,.bool tx] w fun e w' => e = .returned (.bool (Sy.bareN v nm tx)) /\ Below w.heap.size w w':=by
 obtain ⟨op,s,n,t,l⟩:=v
 obtain ⟨A,c,xs,rfl,ho,hl,hr,hvs⟩:=hv.open2
 have h1 : s.length <= 9223372036854775807:=ho.2.2.2.2.1
 have h2 : t.length <= 9223372036854775807:=ho.2.2.2.2.2.1
 cases nm <;> cases tx
 ·
  exact bare_00 op n s t l A c w h1 h2
 ·
  exact bare_01 op n s t l A c w h1 h2
 ·
  exact bare_10 op n s t l A c w h1 h2
 ·
  exact bare_11 op n s t l A c w h1 h2
theorem small_any (v : N) (a : Value) (w : World) (S : Nat -> Prop) (hsz : v.size <= 1099511627776) (hv : NA w S a v) : Calls Tryz.prog 65 #[a] w fun e w' => e = .returned (.bool (decide (v.size <= 4000 /\ v.depth <= 40))) /\ Below w.heap.size w w':=by
 have C1:=hid (fun W (hW : Below w.heap.size w W) => rsize_any _ v a W S (Nat.le_refl _) hsz (hv.below hW))
 have C2:=hid (fun W (hW : Below w.heap.size w W) => rdepth_any _ v a W S (Nat.le_refl _) hsz (hv.below hW))
 have hdz:=Sy.N.depth_le_size v
 have HD : Hid (decide (v.size <= 4000 /\ v.depth <= 40) = (decide (v.size <= 4000) && decide (v.depth <= 40))):=by show _ = _;rw [Bool.decide_and]
 generalize decide (v.size <= 4000 /\ v.depth <= 40) = dd at HD |-
 generalize v.size = sz at *
 generalize v.depth = dp at *
 obtain ⟨op,s,n,t,l⟩:=v
 obtain ⟨A,c,xs,rfl,ho,hl,hr,hvs⟩:=hv.open2
 clear hv ho hr hvs
 have HX:=hid (Bx.refl (w:=w) (cs:=#[.int .i64 op,.string ⟨s.toArray⟩,.int .i64 n,.string ⟨t.toArray⟩,.slice A l.length c]))
 go_enter Tryz.func65,Tryz.ntmps65
 go_wp2_with fail
 refine (C1.out _ HX.out.below).mono ?_
 rintro e w1 ⟨rfl,hb1⟩
 replace HX:=hid (HX.out.step hb1)
 clear hb1
 have c0:=HX.out.cell 0
 have c1:=HX.out.cell 1
 have c2:=HX.out.cell 2
 have c3:=HX.out.cell 3
 have c4:=HX.out.cell 4
 simp only [List.getElem?_toArray,List.getElem?_cons_zero,List.getElem?_cons_succ] at c0 c1 c2 c3 c4
 by_cases hs4 : sz <= 4000
 ·
  have hs4' : (sz : Int) <= 4000:=by omega
  go_wp2_with fail
  refine (C2.out _ HX.out.below).mono ?_
  rintro e w2 ⟨rfl,hb2⟩
  replace HX:=hid (HX.out.step hb2)
  clear hb2 c0 c1 c2 c3 c4
  go_wp2_with fail
  go_ret
  exact ⟨ret_bool (by rw [HD.out];simp [hs4];omega),HX.out.below⟩
 ·
  have hs4' : ¬ (sz : Int) <= 4000:=by omega
  go_wp2_with fail
  go_ret
  exact ⟨ret_bool (by rw [HD.out];simp [hs4]),HX.out.below⟩
end Go.Proofs.YtgeppafcemeidaaGreatDoor
