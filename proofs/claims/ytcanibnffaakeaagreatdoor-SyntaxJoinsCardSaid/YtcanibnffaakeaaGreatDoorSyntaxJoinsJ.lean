/-
  WHAT IS PROVED: the statement SyntaxJoins of layer 8 (Rows.SyntaxJoinsCardSaid): for every input, of any size, the Go function workflowlaw08.SyntaxJoins returns true, and each argument reads afterwards as it read before. CONDITIONS: the package-level variables that the row lists (two errors and three tables of Go's library) start as the program's text lays them: the card ties them to it. None beyond the row's own.
-/
import Derived.Test.YtcanibnffaakeaaGreatDoorMT1
import Derived.Test.YtcanibnffaakeaaGreatDoorMZ1
import Derived.Test.YtcanibnffaakeaaGreatDoorCards
import Derived.Test.YtcanibnffaakeaaGreatDoorTie
import Derived.ProofKit
import Derived.OpenShut
import Derived.ShutString
import Derived.ChangeOld
import Derived.SevenTiedAt
import Derived.Deep.DeepHandedRow
import Derived.Deep.DeepWitnessRowRef
namespace Go.Proofs.YtcanibnffaakeaaGreatDoor.syntaxJoins
open Go.ChangeShapes Go.WideShapes Go.ChangeAt Go.RowKit
open Go.ChangeMaps (open_string shut_string)
set_option linter.unusedVariables false

theorem joi_str (s t : ByteArray) : (s ++ (⟨#[32]⟩ : ByteArray) ++ t).data.toList = s.data.toList ++ 32 :: t.data.toList := by simp [ByteArray.data_append]

theorem sizeL_ge : ∀ l : List Sy.N, l.length ≤ Sy.N.sizeL l
  | [] => Nat.zero_le _
  | v :: l => by rw [Sy.N.sizeL_cons, List.length_cons]; have := sizeL_ge l; have := Sy.N.size_pos v; omega
theorem na_kr {w : World} {S : Nat → Prop} {op n : Int} {nm t : List UInt8} {l : List Sy.N} {a0 a1 a2 a3 : Value} {A : Option Addr} {c : Nat} (h : NA w S (.agg #[a0, a1, a2, a3, .slice A l.length c]) (.mk op nm n t l)) : KR w S (.slice A l.length c) l := by
  obtain ⟨A', c', he, _, hk⟩ := h.open_
  injection he with he
  have he := congrArg (fun x : Array Value => x[4]?) he
  simp only [List.getElem?_toArray, List.getElem?_cons_succ, List.getElem?_cons_zero, Option.some.injEq] at he
  rw [he]
  exact hk
theorem nd_na {w : World} {S : Nat → Prop} {v : Value} {l : List Sy.N} (h : KR w S v l) (hl : l.length ≤ 10000) : NA w S (.agg #[.int .i64 60, .string ⟨#[]⟩, .int .i64 0, .string ⟨#[]⟩, v]) (Sy.nd 60 l) :=
  NA.mk_ (nm := []) (t := []) (by unfold Ok; simp; omega) h
theorem two_facts {w6 : World} {K c6 c2 : Nat} {xs ys : List Sy.N} {A6 A2 : Option Addr} {S S2 : Nat → Prop} (hZ : Nb w6 K 60 [] 0 [] none 0 0) (hO : OwnS w6 S (.slice A6 xs.length c6) xs) (hS : ¬ S K) (hK2 : KR w6 S2 (.slice A2 ys.length c2) ys) (h2 : ¬ S2 K) :
    Nb (w6.setCell ⟨K, 4, none⟩ (.slice A6 xs.length c6)) K 60 [] 0 [] A6 xs.length c6 ∧ OwnS (w6.setCell ⟨K, 4, none⟩ (.slice A6 xs.length c6)) S (.slice A6 xs.length c6) xs ∧ KR (w6.setCell ⟨K, 4, none⟩ (.slice A6 xs.length c6)) S2 (.slice A2 ys.length c2) ys ∧ Ch K w6 (w6.setCell ⟨K, 4, none⟩ (.slice A6 xs.length c6)) ∧ (w6.setCell ⟨K, 4, none⟩ (.slice A6 xs.length c6)).heap.size = w6.heap.size := by
  have c7 := Ch.set w6 K 4 (.slice A6 xs.length c6)
  refine ⟨(heap_set (i := 4) (u := .slice A6 xs.length c6) hZ).trans (by rfl), hO.ch c7 hS, hK2.ch c7 h2, c7, by simp [World.setCell]⟩
theorem own_ne {A : Option Addr} {n c q : Nat} (h : (Value.slice A n c).ownBlock = (Value.slice none 0 0).ownBlock ∨ (Value.slice A n c).ownBlock = some q) {b : Nat} (hb : b ≠ q) : (Value.slice A n c).ownBlock ≠ some b := by
  rcases h with h | h
  · rw [h]; simp [Value.ownBlock]
  · rw [h]; simp; omega
theorem z_grown {w w' : World} {k m c : Nat} {op n : Int} {s t : List UInt8} {A : Option Addr} {row : Option Nat} (h : Nb w k op s n t A m c) (hg : w.grownBy w' row) (hr : row ≠ some k) : Nb w' k op s n t A m c :=
  (hg.block k h.lt (fun e => hr e.symm)).trans h

set_option maxRecDepth 100000 in
set_option maxHeartbeats 4000000 in
theorem walk (w : World) (hG : Good w) (s : ByteArray) (hs : s.size ≤ maxLen) (t : ByteArray) (ht : t.size ≤ maxLen) :
    Calls Tryz.prog 7 #[.string s, .string t] w fun e w' => e = .returned (.bool true) ∧ Below w.heap.size w w' := by
  have HG := hid hG
  clear hG
  by_cases h : (5000 : Int) < (s.size : Int)
  · go_enter Tryz.func7, Tryz.ntmps7
    go_wp2_with fail
    refine (works_any _ HG.out).mono ?_
    rintro e w3 ⟨rfl, hb3⟩
    go_wp2_with fail
    go_ret
    exact ⟨rfl, hb3⟩
  by_cases h' : (5000 : Int) < (t.size : Int)
  · go_enter Tryz.func7, Tryz.ntmps7
    go_wp2_with fail
    refine (works_any _ HG.out).mono ?_
    rintro e w3 ⟨rfl, hb3⟩
    go_wp2_with fail
    go_ret
    exact ⟨rfl, hb3⟩
  have hsl : s.data.toList.length = s.size := by simp
  have htl : t.data.toList.length = t.size := by simp
  obtain ⟨o, ho⟩ := Sy.out_tot (nt := .prog) (by simp [Sy.NZ]) s.data.toList
  obtain ⟨o2, ho2⟩ := Sy.out_tot (nt := .prog) (by simp [Sy.NZ]) t.data.toList
  have C1 := hid (Parse_any s o ho w HG.out)
  have C2 := hid (fun W hW => Parse_any t o2 ho2 W (HG.out.below hW))
  cases o with
  | err a c =>
    have he : (c != 0) = true := by simpa using Sy.out_err ho
    cases o2 with
    | err a2 c3 =>
      clear ho ho2 hsl htl
      go_enter Tryz.func7, Tryz.ntmps7
      go_wp2_with fail
      refine C1.out.mono ?_
      rintro e w1 ⟨rfl, hb1⟩
      have HB := hid hb1
      clear hb1
      unfold ndV
      go_wp2_with fail
      replace HB := hid (bstep HB.out (bl (w := w1) (.cells #[.int .i64 0, .string ⟨[].toArray⟩, .int .i64 0, .string ⟨[].toArray⟩, .slice none 0 0] 25)))
      refine (C2.out _ HB.out).mono ?_
      rintro e w2 ⟨rfl, hb2⟩
      replace HB := hid (bstep HB.out hb2)
      clear hb2
      unfold ndV
      go_wp2_with fail
      replace HB := hid (bstep HB.out (bl (w := w2) (.cells #[.int .i64 0, .string ⟨[].toArray⟩, .int .i64 0, .string ⟨[].toArray⟩, .slice none 0 0] 25)))
      refine (works_any _ (HG.out.below HB.out)).mono ?_
      rintro e w3 ⟨rfl, hb3⟩
      go_wp2_with fail
      go_ret
      exact ⟨rfl, bstep HB.out hb3⟩
    | tree y =>
      clear ho ho2 hsl htl
      obtain ⟨op, nm, n, tt, l⟩ := y
      go_enter Tryz.func7, Tryz.ntmps7
      go_wp2_with fail
      refine C1.out.mono ?_
      rintro e w1 ⟨rfl, hb1⟩
      have HB := hid hb1
      clear hb1
      unfold ndV
      go_wp2_with fail
      replace HB := hid (bstep HB.out (bl (w := w1) (.cells #[.int .i64 0, .string ⟨[].toArray⟩, .int .i64 0, .string ⟨[].toArray⟩, .slice none 0 0] 25)))
      refine (C2.out _ HB.out).mono ?_
      rintro e w2 ⟨A2, c2, rfl, hn2, hb2⟩
      replace HB := hid (bstep HB.out hb2)
      clear hb2 hn2
      simp only [Sy.N.op, Sy.N.nm, Sy.N.n, Sy.N.t, Sy.N.l]
      unfold ndV
      go_wp2_with fail
      replace HB := hid (bstep HB.out (bl (w := w2) (.cells #[.int .i64 op, .string ⟨nm.toArray⟩, .int .i64 n, .string ⟨tt.toArray⟩, .slice A2 l.length c2] 25)))
      refine (works_any _ (HG.out.below HB.out)).mono ?_
      rintro e w3 ⟨rfl, hb3⟩
      go_wp2_with fail
      go_ret
      exact ⟨rfl, bstep HB.out hb3⟩
  | tree x =>
    cases o2 with
    | err a2 c3 =>
      have he : (c3 != 0) = true := by simpa using Sy.out_err ho2
      clear ho ho2 hsl htl
      obtain ⟨op, nm, n, tt, l⟩ := x
      go_enter Tryz.func7, Tryz.ntmps7
      go_wp2_with fail
      refine C1.out.mono ?_
      rintro e w1 ⟨A1, c1, rfl, hn1, hb1⟩
      have HB := hid hb1
      clear hb1 hn1
      simp only [Sy.N.op, Sy.N.nm, Sy.N.n, Sy.N.t, Sy.N.l]
      unfold ndV
      go_wp2_with fail
      replace HB := hid (bstep HB.out (bl (w := w1) (.cells #[.int .i64 op, .string ⟨nm.toArray⟩, .int .i64 n, .string ⟨tt.toArray⟩, .slice A1 l.length c1] 25)))
      refine (C2.out _ HB.out).mono ?_
      rintro e w2 ⟨rfl, hb2⟩
      replace HB := hid (bstep HB.out hb2)
      clear hb2
      unfold ndV
      go_wp2_with fail
      replace HB := hid (bstep HB.out (bl (w := w2) (.cells #[.int .i64 0, .string ⟨[].toArray⟩, .int .i64 0, .string ⟨[].toArray⟩, .slice none 0 0] 25)))
      refine (works_any _ (HG.out.below HB.out)).mono ?_
      rintro e w3 ⟨rfl, hb3⟩
      go_wp2_with fail
      go_ret
      exact ⟨rfl, bstep HB.out hb3⟩
    | tree y =>
      obtain ⟨hxy, ho3⟩ := Sy.out_join (by omega) (by omega) ho ho2
      obtain ⟨_, _, _, _, _, hzx, _⟩ := Sy.out_tree ho
      obtain ⟨_, _, _, _, _, hzy, _⟩ := Sy.out_tree ho2
      obtain ⟨xs, ys, rfl, rfl⟩ := hxy
      rw [← joi_str s t] at ho3
      have C3 := hid (fun W hW => Parse_any (s ++ ⟨#[32]⟩ ++ t) _ ho3 W (HG.out.below hW))
      have h2 : (⟨#[32]⟩ : ByteArray).size = 1 := rfl
      have h3 : (s ++ (⟨#[32]⟩ : ByteArray)).size = s.size + 1 := by rw [ByteArray.size_append]; rfl
      clear ho ho2 ho3 hsl htl
      have hlx : xs.length ≤ 4000 := by have := sizeL_ge xs; simp only [Sy.nd, Sy.N.size_mk] at hzx; omega
      have hly : ys.length ≤ 4000 := by have := sizeL_ge ys; simp only [Sy.nd, Sy.N.size_mk] at hzy; omega
      have HSZ : Hid ((Sy.nd 60 (xs ++ ys)).size ≤ 1099511627776) := hid (by simp only [Sy.nd, Sy.N.size_mk, Sy.N.sizeL_app] at hzx hzy ⊢; omega)
      go_enter Tryz.func7, Tryz.ntmps7
      go_wp2_with fail
      refine C1.out.mono ?_
      rintro e w1 ⟨A1, c1, rfl, hn1, hb1⟩
      have HB := hid hb1
      have hn1 := hn1.more (S' := fun b => w.heap.size ≤ b ∧ b < w1.heap.size) (fun b hb hlt => ⟨hb, hlt⟩)
      simp only [Sy.nd, Sy.N.op, Sy.N.nm, Sy.N.n, Sy.N.t, Sy.N.l] at hn1 ⊢
      unfold ndV at hn1 ⊢
      have K1 := hid (na_kr hn1)
      clear hb1 hn1
      go_wp2_with fail
      have X1 : Hid (Nb (w1.alloc (.cells #[.int .i64 60, .string ⟨[].toArray⟩, .int .i64 0, .string ⟨[].toArray⟩, .slice A1 xs.length c1] 25)) w1.heap.size 60 [] 0 [] A1 xs.length c1) := Nb.new
      have hb1 := bl (w := w1) (.cells #[.int .i64 60, .string ⟨[].toArray⟩, .int .i64 0, .string ⟨[].toArray⟩, .slice A1 xs.length c1] 25)
      have hs1 := HB.out.size
      have hz1 : (w1.alloc (.cells #[.int .i64 60, .string ⟨[].toArray⟩, .int .i64 0, .string ⟨[].toArray⟩, .slice A1 xs.length c1] 25)).heap.size = w1.heap.size + 1 := by simp
      replace HB := hid (bstep HB.out hb1)
      replace K1 := hid (K1.out.below hb1)
      clear hb1
      refine (C2.out _ HB.out).mono ?_
      rintro e w2 ⟨A2, c2, rfl, hn2, hb2⟩
      have hs2 := hb2.size
      rw [hz1] at hs2
      replace HB := hid (bstep HB.out hb2)
      replace K1 := hid (K1.out.below hb2)
      replace X1 := hid (X1.out.below hb2)
      have hn2 := hn2.more (S' := fun b => w1.heap.size + 1 ≤ b ∧ b < w2.heap.size) (fun b hb hlt => ⟨by simpa using hb, hlt⟩)
      simp only [Sy.nd, Sy.N.op, Sy.N.nm, Sy.N.n, Sy.N.t, Sy.N.l] at hn2 ⊢
      unfold ndV at hn2 ⊢
      have K2 := hid (na_kr hn2)
      clear hb2 hn2 hz1
      obtain ⟨Wz, hWz⟩ : ∃ Wz, Wz = (w2.alloc (.cells #[.int .i64 60, .string ⟨#[]⟩, .int .i64 0, .string ⟨#[]⟩, .slice A2 ys.length c2] 25)).alloc (.cells #[.int .i64 60, .string ⟨#[]⟩, .int .i64 0, .string ⟨#[]⟩, .slice none 0 0] 25) := ⟨_, rfl⟩
      have hbz : Below w2.heap.size w2 Wz := by rw [hWz]; exact bstep (bl _) (bl _)
      have hzz : Wz.heap.size = w2.heap.size + 2 := by rw [hWz]; simp
      have XY : Nb Wz w2.heap.size 60 [] 0 [] A2 ys.length c2 := by
        rw [hWz]
        exact (Nb.new (w := w2) (op := 60) (s := []) (n := 0) (t := []) (A := A2) (m := ys.length) (c := c2)).below (bl _)
      have XZ : Nb Wz (w2.heap.size + 1) 60 [] 0 [] none 0 0 := by
        rw [hWz]
        have := Nb.new (w := w2.alloc (.cells #[.int .i64 60, .string ⟨#[]⟩, .int .i64 0, .string ⟨#[]⟩, .slice A2 ys.length c2] 25)) (op := 60) (s := []) (n := 0) (t := []) (A := none) (m := 0) (c := 0)
        simpa using this
      replace HB := hid (bstep HB.out hbz)
      replace K1 := hid (K1.out.below hbz)
      replace K2 := hid (K2.out.below hbz)
      replace X1 := hid (X1.out.below hbz)
      clear hbz
      have a4 := X1.out.c4
      have b4 := XY.c4
      have z4 := XZ.c4
      have HXY := hid XY
      have HXZ := hid XZ
      clear XY XZ
      rw [hWz] at a4 b4 z4
      have HHB := hid (HB.out.size)
      have HHZ := hid hWz
      go_wp2_with (first
        | (at_builtin; rw [← HHZ.out]; refine wpList_appNodes (S := fun b => w.heap.size ≤ b ∧ b ≠ w2.heap.size + 1) rfl (.tmp 45) (.tmp 47) rfl (.slice none 0 0) (.slice A1 xs.length c1) [] xs rfl OwnS.nil_ rfl K1.out (fun b hb hlt => ⟨⟨hb.1, by have := hb.2; omega⟩, by simp [Value.ownBlock]⟩) ⟨HHB.out, by omega⟩ (by simp only [List.length_nil]; omega) ?_; intro A6 c6 w6 ho6 hg6 hq6; simp only [List.length_nil, Nat.zero_add, List.nil_append] at ho6 hg6 hq6 ⊢; have hb6 : Below Wz.heap.size Wz w6 := (Below.refl _ _).grown hg6 (Nat.le_refl _) (fun k hk => by simp [Value.ownBlock] at hk); have s6 := hb6.size; have HT := hid (two_facts (HXZ.out.below hb6) ho6 (by simp) (K2.out.below hb6) (fun h => by have := h.2; omega)); have HQ6 := hid (fun b (hb : b ≠ Wz.heap.size) => own_ne hq6 hb); have B7 := hid ((HB.out.trans (hb6.mono HHB.out)).trans (HT.out.2.2.2.1.below (B := w.heap.size) (by omega) (by omega))); have y4 := (HXY.out.below hb6).c4; have q4 := (HXZ.out.below hb6).c4; have qf := (HXZ.out.below hb6).free 4; clear ho6 hg6 hq6 hb6 a4 b4 z4 hWz)
        | (at_builtin; refine wpList_appNodes (S := fun b => w.heap.size ≤ b ∧ b ≠ w2.heap.size + 1) rfl (.tmp 51) (.tmp 53) rfl (.slice A6 xs.length c6) (.slice A2 ys.length c2) xs ys rfl HT.out.2.1 rfl HT.out.2.2.1 (fun b hb hlt => ⟨⟨by have := hb.1; omega, by have := hb.2; omega⟩, HQ6.out b (by have := hb.2; omega)⟩) ⟨by have := HT.out.2.2.2.2; omega, by have := HT.out.2.2.2.2; omega⟩ (by omega) ?_; intro A8 c8 w8 ho8 hg8 hq8; have Z8 := hid (z_grown HT.out.1 hg8 (HQ6.out (w2.heap.size + 1) (by omega))); have s8 := hg8.size; have O8 := hid ho8; have p4 := Z8.out.c4; have pf := Z8.out.free 4))
      have hws : (w8.setCell ⟨w2.heap.size + 1, 4, none⟩ (.slice A8 (xs.length + ys.length) c8)).heap.size = w8.heap.size := by simp [World.setCell]
      have c9 := Ch.set w8 (w2.heap.size + 1) 4 (.slice A8 (xs.length + ys.length) c8)
      have s7 := B7.out.size
      have HB9 := hid ((B7.out.grown hg8 s7 (fun k hk => (HT.out.2.1.ob k hk).1.1)).trans (c9.below (B := w.heap.size) (by omega) (by omega)))
      have Z9 : Hid (Nb (w8.setCell ⟨w2.heap.size + 1, 4, none⟩ (.slice A8 (xs.length + ys.length) c8)) (w2.heap.size + 1) 60 [] 0 [] A8 (xs.length + ys.length) c8) := (heap_set (i := 4) (u := .slice A8 (xs.length + ys.length) c8) Z8.out).trans (by rfl)
      have O9 := hid (O8.out.ch c9 (by simp))
      clear c9 hws s7 s8 hg8 hq8 p4 pf q4 qf y4 s6 B7 HT HQ6 O8 Z8 HXY HXZ HHZ HHB K1 K2 X1
      generalize w8.setCell ⟨w2.heap.size + 1, 4, none⟩ (.slice A8 (xs.length + ys.length) c8) = w9 at *
      refine (C3.out _ HB9.out).mono ?_
      intro e w10 hp
      by_cases hbig : (Sy.nd 60 (xs ++ ys)).size > 4000
      · have hbig' : (4000 : Int) < (((Sy.nd 60 (xs ++ ys)).size : Nat) : Int) := by omega
        rw [show Sy.nd 60 ((Sy.nd 60 xs).l ++ (Sy.nd 60 ys).l) = Sy.nd 60 (xs ++ ys) from rfl, if_pos hbig] at hp
        obtain ⟨rfl, hb10⟩ := hp
        have hb11 := bl (w := w10) (.cells #[.int .i64 0, .string ⟨[].toArray⟩, .int .i64 0, .string ⟨[].toArray⟩, .slice none 0 0] 25)
        have Z11 := hid ((Z9.out.below hb10).below hb11)
        have O11 := hid ((O9.out.below hb10).below hb11)
        have HB11 := hid (bstep (bstep HB9.out hb10) hb11)
        clear hb10 hb11
        unfold ndV
        have z0 := Z11.out.c0
        have z1 := Z11.out.c1
        have z2 := Z11.out.c2
        have z3 := Z11.out.c3
        have z4 := Z11.out.c4
        go_wp2_with fail
        refine (rsize_any _ _ _ _ _ (Nat.le_refl _) HSZ.out (nd_na O11.out.kr (by rw [List.length_append]; omega))).mono ?_
        rintro e w12 ⟨rfl, hb12⟩
        clear z0 z1 z2 z3 z4
        replace HB11 := hid (bstep HB11.out hb12)
        clear hb12
        generalize (Sy.nd 60 (xs ++ ys)).size = zz at *
        go_wp2_with fail
        refine (works_any _ (HG.out.below HB11.out)).mono ?_
        rintro e w13 ⟨rfl, hb13⟩
        go_wp2_with fail
        go_ret
        exact ⟨rfl, bstep HB11.out hb13⟩
      · have hbig' : ¬ (4000 : Int) < (((Sy.nd 60 (xs ++ ys)).size : Nat) : Int) := by omega
        rw [show Sy.nd 60 ((Sy.nd 60 xs).l ++ (Sy.nd 60 ys).l) = Sy.nd 60 (xs ++ ys) from rfl, if_neg hbig] at hp
        obtain ⟨A10, c10, rfl, hn10, hb10⟩ := hp
        simp only [Sy.nd, Sy.N.op, Sy.N.nm, Sy.N.n, Sy.N.t, Sy.N.l, List.length_append] at hn10 ⊢
        unfold ndV at hn10 ⊢
        have hb11 := bl (w := w10) (.cells #[.int .i64 60, .string ⟨[].toArray⟩, .int .i64 0, .string ⟨[].toArray⟩, .slice A10 (xs.length + ys.length) c10] 25)
        have X11 : Hid (Nb (w10.alloc (.cells #[.int .i64 60, .string ⟨[].toArray⟩, .int .i64 0, .string ⟨[].toArray⟩, .slice A10 (xs.length + ys.length) c10] 25)) w10.heap.size 60 [] 0 [] A10 (xs.length + ys.length) c10) := Nb.new
        have N11 := hid (hn10.below hb11)
        have Z11 := hid ((Z9.out.below hb10).below hb11)
        have O11 := hid ((O9.out.below hb10).below hb11)
        have HB11 := hid (bstep (bstep HB9.out hb10) hb11)
        clear hb10 hb11 hn10
        have z0 := Z11.out.c0
        have z1 := Z11.out.c1
        have z2 := Z11.out.c2
        have z3 := Z11.out.c3
        have z4 := Z11.out.c4
        go_wp2_with fail
        refine (rsize_any _ _ _ _ _ (Nat.le_refl _) HSZ.out (nd_na O11.out.kr (by rw [List.length_append]; omega))).mono ?_
        rintro e w12 ⟨rfl, hb12⟩
        clear z0 z1 z2 z3 z4
        replace HB11 := hid (bstep HB11.out hb12)
        replace X11 := hid (X11.out.below hb12)
        replace N11 := hid (N11.out.below hb12)
        replace Z11 := hid (Z11.out.below hb12)
        replace O11 := hid (O11.out.below hb12)
        clear hb12
        have CS := hid (rsame_any _ _ _ _ _ _ _ _ (Nat.le_refl _) N11.out (nd_na O11.out.kr (by rw [List.length_append]; omega)))
        rw [show (Sy.N.mk 60 [] 0 [] (xs ++ ys)) = Sy.nd 60 (xs ++ ys) from rfl, Sy.same_self] at CS
        have z0 := Z11.out.c0
        have z1 := Z11.out.c1
        have z2 := Z11.out.c2
        have z3 := Z11.out.c3
        have z4 := Z11.out.c4
        have a0 := X11.out.c0
        have a1 := X11.out.c1
        have a2 := X11.out.c2
        have a3 := X11.out.c3
        have a4 := X11.out.c4
        generalize (Sy.nd 60 (xs ++ ys)).size = zz at *
        go_wp2_with fail
        refine CS.out.mono ?_
        rintro e w13 ⟨rfl, hb13⟩
        clear z0 z1 z2 z3 z4 a0 a1 a2 a3 a4
        replace HB11 := hid (bstep HB11.out hb13)
        clear hb13
        go_wp2_with fail
        refine (works_any _ (HG.out.below HB11.out)).mono ?_
        rintro e w14 ⟨rfl, hb14⟩
        go_wp2_with fail
        go_ret
        exact ⟨rfl, bstep HB11.out hb14⟩


theorem own : ownKnob Tryz.prog.godebug = none := by kernel_rfl
theorem laidOut : laidOutB Tryz.prog = true := by kernel_rfl

set_option maxRecDepth 100000 in
/-- What the walk gives, for every argument and every world that holds what is listed. -/
theorem contract (H : Type) (enc : TypeId × Value → H) (W : World) (base : Nat) (args : Array Value) (ds gs : List (DataW H)) (before : List MemPlace)
    (hval0 : ∀ (j : Nat) t v, Tryz.f7.params[j]? = some t → args[j]? = some v → Value.okWide Tryz.prog W .any base t v)
    (hW : DataW.Whole enc Tryz.prog Tryz.f7.params.toList Rows.syntaxJoinsSpec.vars false W args.toList ds gs before) (hG : Good W) :
    Calls Tryz.prog 7 args W fun e W' => ∃ v, e = .returned v ∧ Rows.syntaxJoinsSpec.post enc Tryz.prog Tryz.f7 false true false false W args v W' := by
  have hval := hval0
  have hW' := hW
  obtain ⟨p, q, hA0, hV, rfl, hfz, hnd⟩ := hW
  have hA : DataW.TrodAll enc Tryz.prog W 0 (fun _ => true) true Tryz.f7.params.toList args.toList ds p := hA0
  rw [Tryz.params7] at hA hval
  obtain ⟨v0, vs0, d0, ds0, p0, q0, hargs, rfl, rfl, h0, r0⟩ := trodAll_cons hA
  obtain ⟨v1, vs1, d1, ds1, p1, q1, rfl, rfl, rfl, h1, r1⟩ := trodAll_cons r0
  obtain ⟨rfl, rfl, rfl⟩ := trodAll_nil r1
  obtain rfl : args = #[v0, v1] := Array.toList_inj.1 (by first | exact hargs | simpa using hargs)
  obtain ⟨rfl, rfl⟩ := trodVars_none hV
  obtain ⟨a0, rfl, rfl, rfl, w0⟩ := open_string Tryz.underlying9 (hval 0 9 v0 rfl rfl) h0
  obtain ⟨a1, rfl, rfl, rfl, w1⟩ := open_string Tryz.underlying9 (hval 1 9 v1 rfl rfl) h1
  clear hA0 hval0
  refine (walk W hG a0 w0 a1 w1).mono fun e W' ⟨he, bel⟩ => ?_
  subst he
  exact ⟨_, rfl, _, _, _, [], _, [], hW', trodAll_mk1 (shut_bool Tryz.underlying4 _), (trodAll_cons_mk (shut_string Tryz.underlying9 w0) (trodAll_cons_mk (shut_string Tryz.underlying9 w1) trodAll_mk0)), rfl, bel.frame _, fun h => by cases h⟩

theorem reads (os : Os) {H : Type} (enc : TypeId × Value → H) : ∃ places, DataW.whole enc Tryz.prog ((World.doorLaid Tryz.prog 400 os).forCall (fun _ _ => 0) ⟨#[], #[.string ByteArray.empty, .string ByteArray.empty], []⟩).memory Tryz.f7.params.toList Rows.syntaxJoinsSpec.vars false (#[.string ByteArray.empty, .string ByteArray.empty] : Array Value).toList 8 = some ([.lit (.string []), .lit (.string [])], [], places) :=
  ⟨[], by kernel_rfl⟩

set_option maxRecDepth 100000 in
theorem lifted (os : Os) (started : os.Started) (H : Type) (enc : TypeId × Value → H) (F : Stop.Interp) :
    ReturnsInHanded {} Tryz.checked os 7 .any ((OpenSpec.ofChange Rows.syntaxJoinsSpec).preRow enc Tryz.prog Tryz.f7 Rows.syntaxJoinsRow.domain false Rows.syntaxJoinsRow.laid) (((OpenSpec.ofChange Rows.syntaxJoinsSpec).at F).post enc Tryz.prog Tryz.f7 false true false false) := by
  obtain ⟨places, hx⟩ := reads os enc
  refine returnsInHanded_of_row (C := Tryz.checked) (s := OpenSpec.ofChange Rows.syntaxJoinsSpec) own started (by kernel_rfl) Tryz.func7
    (witness_row_atRef (enc := enc) (C := Tryz.checked) false (World.doorLaid Tryz.prog 400 os) #[.string ByteArray.empty, .string ByteArray.empty] rfl (by kernel_rfl) (by kernel_rfl) (by kernel_rfl)
      (OpenSpec.preRow_of_cond 8 hx (by kernel_rfl) (fun k hk => by cases hk) (by kernel_rfl) (door_met os _))) ?_
  intro W base args ds gs before hval hW _ _ hsz hL _ _
  exact contract H enc W base args ds gs before hval hW (good_of hL)

theorem over : Rows.SyntaxJoinsSaid :=
  OpenClaim.holds_of_cond 7 Tryz.f7 rfl rfl rfl rfl rfl rfl rfl ⟨rfl, rfl, rfl, rfl, rfl⟩ rfl rfl rfl rfl rfl (by kernel_rfl) Tryz.func7 (by kernel_rfl)
    (of_decide_eq_true (by kernel_rfl)) (by unfold Func.isWrapper; first | (rw [if_pos (by decide +kernel)]; kernel_rfl) | (rw [if_neg (by decide +kernel)]; exact ⟨rfl, rfl⟩))
    (fun os started H enc _ F => by rw [OpenClaim.pre_eq_preRow]; exact lifted os started H enc F)

theorem plain (f : FuncId) (fn : Func) (hf : Tryz.pinned.checked.prog.funcNamed "workflow/workflowlaw08.SyntaxJoins" = some f) (hfn : Tryz.pinned.checked.prog.funcs[f]? = some fn) :
    true = Tryz.pinned.checked.prog.looks [] ∧ ∀ (j : Nat) t, fn.params[j]? = some t → Tryz.pinned.checked.prog.wantsStandIn t = false := by
  obtain rfl : f = 7 := Option.some.inj ((show Tryz.prog.funcNamed "workflow/workflowlaw08.SyntaxJoins" = some 7 by kernel_rfl).symm.trans hf) |>.symm
  obtain rfl : fn = Tryz.f7 := (Option.some.inj (Tryz.func7.symm.trans hfn)).symm
  refine ⟨by kernel_rfl, fun j t ht => ?_⟩
  rw [Tryz.params7] at ht
  have hm : t ∈ [9, 9] := by simpa using Array.mem_of_getElem? ht
  have hall : ([9, 9].all fun u => !Tryz.prog.wantsStandIn u) = true := by kernel_rfl
  exact (show Tryz.prog.wantsStandIn t = false by simpa using List.all_eq_true.1 hall t hm)

/-- THE STATEMENT: THE CARD. -/
theorem proved : Rows.SyntaxJoinsCardSaid :=
  Claim7.holds_tied_plain_at .later [] _ _ _ _ over (fun _ h => by cases h) (by kernel_rfl) (fun _ h => by cases h) syntaxJoins_row_tie rfl ⟨rfl, rfl⟩ (by kernel_rfl) rfl plain (by kernel_rfl)
#print axioms proved
end Go.Proofs.YtcanibnffaakeaaGreatDoor.syntaxJoins
