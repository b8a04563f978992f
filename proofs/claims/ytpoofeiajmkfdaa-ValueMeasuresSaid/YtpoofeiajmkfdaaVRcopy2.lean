/-
  Copy of the reference: its walk.
-/
import Derived.Test.YtpoofeiajmkfdaaVRcopy
import Derived.Deep.RegionLaw
namespace Go.Proofs.Ytpoofeiajmkfdaa
open Go.RowKit

/-- A fresh struct behind two boxes. -/
theorem Cp.begin_ (w : World) (box : Array Value) (k n : Int) (s : ByteArray) : ∃ w2, w2.heap.size = w.heap.size + 3 ∧ Below w.heap.size w w2 ∧ w2.heap[w.heap.size]? = some (.cells box 26 (0, 0)) ∧ w2.heap[w.heap.size + 1]? = some (.cells #[.int .i64 0, .int .i64 0, .string ⟨#[]⟩, .slice none 0 0, .slice none 0 0] 26 (0, 0)) ∧
    Cp w2 (w.heap.size + 1 + 1) k n s (.slice none 0 0) (.slice none 0 0) [] [] []
    (((w.alloc (.cells box 26)).alloc (.cells #[.int .i64 0, .int .i64 0, .string ⟨#[]⟩, .slice none 0 0, .slice none 0 0] 26)).alloc (.cells #[.int .i64 k, .int .i64 n, .string s, .slice none 0 0, .slice none 0 0] 26)) := by
  have h2 := heap_alloc_new ((w.alloc (.cells box 26)).alloc (.cells #[.int .i64 0, .int .i64 0, .string ⟨#[]⟩, .slice none 0 0, .slice none 0 0] 26)) (.cells #[.int .i64 k, .int .i64 n, .string s, .slice none 0 0, .slice none 0 0] 26)
  have h1 := ((Bx.refl (w := w.alloc (.cells box 26)) (cs := #[.int .i64 0, .int .i64 0, .string ⟨#[]⟩, .slice none 0 0, .slice none 0 0])).step (below_box (.cells #[.int .i64 k, .int .i64 n, .string s, .slice none 0 0, .slice none 0 0] 26))).block
  have e : (w.alloc (.cells box 26)).heap.size = w.heap.size + 1 := by simp
  have e2 : ((w.alloc (.cells box 26)).alloc (.cells #[.int .i64 0, .int .i64 0, .string ⟨#[]⟩, .slice none 0 0, .slice none 0 0] 26)).heap.size = w.heap.size + 1 + 1 := by simp
  rw [e] at h1
  rw [e2] at h2
  exact ⟨_, by simp, bstep (bstep (below_box (.cells box 26)) (below_box (.cells #[.int .i64 0, .int .i64 0, .string ⟨#[]⟩, .slice none 0 0, .slice none 0 0] 26))) (below_box (.cells #[.int .i64 k, .int .i64 n, .string s, .slice none 0 0, .slice none 0 0] 26)), (Bx.refl.step (bstep (below_box _) (below_box _))).block, h1,
    h2, World.ownsRow_nil _ _ _ _, World.ownsRow_nil _ _ _ _, VsC.nil_, Ch.refl⟩

section
variable {w2 wr w1 : World} {gm : Nat} {k n : Int} {s : ByteArray} {kv iv kv' : Value} {ks : List ByteArray} {l : List V} {ic : List Value}
/-- Behind the append of the keys: the box still stands. -/
theorem Cp.grownK (h : Cp w2 gm k n s (.slice none 0 0) iv [] l ic wr) (hg : wr.grownBy w1 (Value.slice none 0 0).ownBlock) : w1.heap[gm]? = some (.cells #[.int .i64 k, .int .i64 n, .string s, iv, .slice none 0 0] 26 (0, 0)) :=
  (hg.block gm h.lt (fun e => by simp [Value.ownBlock] at e)).trans h.bx
theorem Cp.keys (h : Cp w2 gm k n s (.slice none 0 0) (.slice none 0 0) [] [] [] wr) (hw : gm < w2.heap.size) (ho : w1.ownsRow w2.heap.size 9 1 kv' ks.length (ks.map Value.string)) (hg : wr.grownBy w1 (Value.slice none 0 0).ownBlock) :
    Cp w2 gm k n s kv' (.slice none 0 0) ks [] [] (w1.setCell ⟨gm, 4, none⟩ kv') := by
  refine ⟨?_, own_setCell ho (p := ⟨gm, 4, none⟩) hw _, World.ownsRow_nil _ _ _ _, VsC.nil_, ?_⟩
  · have := heap_setCell_same w1 gm 4 _ 26 kv' (h.grownK hg)
    simpa using this
  · exact ch_set (ch_grown h.ch hg (fun j hj => by simp [Value.ownBlock] at hj)) 4 kv'
theorem Cp.old (h : Cp w2 gm k n s kv iv ks l ic wr) {b : Nat} (hb : b < w2.heap.size) (hne : b ≠ gm) : wr.heap[b]? = w2.heap[b]? := h.ch.block b hb (fun e => by injection e; omega)
theorem Cp.va (h : Cp w2 gm k n s kv iv ks l ic wr) (ho : Ok k n s ks) {B : Nat} (hB : B ≤ w2.heap.size) : VA wr (fun b => B ≤ b ∧ ¬ (b < w2.heap.size)) (.agg #[.int .i64 k, .int .i64 n, .string s, iv, kv]) (.mk k n s l ks) :=
  VA.mk_ ho (RdN.of_own h.io (fun j hj => by have := (World.ownsRow.lt h.io j hj).1; exact ⟨by omega, by omega⟩)) (h.vs.more (fun b hb _ => by have := hb.1; exact ⟨by omega, by omega⟩)) (RdN.of_own h.ko (fun j hj => by have := (World.ownsRow.lt h.ko j hj).1; exact ⟨by omega, by omega⟩))
end

/-- append of values as one step of a region that draws. -/
theorem step_appVals {ops : Array Oper} {o : Oper} {a : Act} {w : World} {K : Act → World → Prop} {Q : Exit → Act → World → Prop} {E : Prop} (hgd : o.guard = none) (s x : Operand)
    (ho : o.op = .call { callee := .builtin .append, args := #[s, x], argTypes := #[23, 23] })
    (base : Nat) (v y : Value) (n m : Nat) (xs news : List Value) (S : Nat → Prop) (hs : a.eval s = v) (hown : w.ownsRow base 26 5 v n xs) (hx : a.eval x = y) (hrd : RdN w S 5 y m news) (h1 : ∀ u ∈ news, u.oneCell' = true)
    (hbytes : (n + m) * 80 ≤ 140737488355328) (hbase : base ≤ w.heap.size)
    (h : ∀ v' w', w'.ownsRow base 26 5 v' (n + m) (xs ++ news) → Below base w w' → w.grownBy w' v.ownBlock → (v'.ownBlock = v.ownBlock ∨ v'.ownBlock = some w.heap.size) → K (a.put o.dst v') w') :
    if Region.wanted o (yielded ops a.tmps) = true then Oper.wp Try.prog o a w K Q else E := by
  have hw : Region.wanted o (yielded ops a.tmps) = true := by simp [Region.wanted, hgd]
  rw [if_pos hw]
  obtain ⟨i0, hi, hz0, hz1, hz2⟩ := info_parts Try.info26
  exact wp_appN w s x 23 ho base 26 i0 _ 5 80 Try.underlying23 hi hz0 hz1 hz2 rfl (by omega) v y n m xs news S hs hown hx hrd h1 hbytes (by omega) hbase h

set_option maxRecDepth 100000 in
set_option maxHeartbeats 1000000 in
theorem rcopy_any (m : Nat) : ∀ (v : V) (a : Value) (w : World) (S : Nat → Prop), V.size v ≤ m → V.size v ≤ 1099511627776 → VA w S a v → Calls Try.prog 27 #[a] w (NewVal w v) := by
  induction m with
  | zero => intro v a w S h; have := V.size_pos v; omega
  | succ m ih =>
    intro v a w S hm hsz hv
    match v with
    | .mk k n s l ks =>
    obtain ⟨A, c, A', c', ics, rfl, ho, hl, hr, hvs, hk⟩ := hv.open_
    obtain ⟨hm, hz⟩ := items_size hm hsz
    have hll := V.length_sizeL l
    have HO := hid ho
    have hkl := ho.2.2.2.2.2.2
    have IH := hid (fun (u : V) (hu : u ∈ l) a W S hva => ih u a W S (hm u hu).1 (hm u hu).2 hva)
    have HR := hid hr
    have HV := hid hvs
    have HK := hid hk
    have HONE := hid (one_str ks)
    clear hv ho hr hvs hk hm hsz ih
    obtain ⟨w2, hsz2, hw2, hbx, hbr, hcp⟩ := Cp.begin_ w #[.int .i64 k, .int .i64 n, .string s, .slice A l.length c, .slice A' ks.length c'] k n s
    have HW2 := hid hw2
    have HBX := hid hbx
    have HBR := hid hbr
    have CPS := hid hcp
    have HKW := hid (HK.out.below (hw2.trans (hcp.ch.below (B := w.heap.size) (by omega) (by omega))) (by omega))
    have hcs := hcp.ch.size
    clear hw2 hbx hbr hcp
    go_enter Try.func27, Try.ntmps27
    go_wp2_with (at_builtin; refine wpList_appStrs rfl (.tmp 13) (.tmp 15) rfl w2.heap.size (.slice none 0 0) _ 0 ks.length [] _ _ rfl CPS.out.ko rfl HKW.out HONE.out (by omega) hcs ?_; intro v1 w1 ho1 hb1 hg1 hat1; rw [Nat.zero_add] at ho1; obtain ⟨Ak, ck, hv1⟩ := own_form ho1; subst hv1; have HO1 := hid ho1; have HG1 := hid hg1; have e4 := cell_of_row w1 (w.heap.size + 1 + 1) 4 _ 26 (0, 0) (CPS.out.grownK hg1); have ef4 := freeOf (CPS.out.grownK hg1) 4; simp only [List.getElem?_toArray, List.getElem?_cons_succ, List.getElem?_cons_zero] at e4; clear ho1 hb1 hg1 hat1)
    have CP1 := hid (CPS.out.keys (by omega) HO1.out HG1.out)
    clear CPS HKW HO1 HG1 HONE hcs e4 ef4
    go_loopw [4] (fun v4 wr => ∃ (i : Nat) (iv : Value) (ic : List Value), i ≤ l.length ∧ v4 = .int .i64 (i : Int) ∧ Cp w2 (w.heap.size + 1 + 1) k n s (.slice Ak ks.length ck) iv ks (l.take i) ic wr) (fun v4 _ => l.length - (intOf v4).toNat)
    case atStart => exact ⟨0, _, [], Nat.zero_le _, rfl, CP1.out⟩
    case round =>
      clear CP1
      obtain ⟨i, iv, ic, hi, rfl, hcp⟩ := hrel
      have HC := hid hcp
      have hbxr : Hid (wr.heap[w.heap.size]? = some (.cells #[.int .i64 k, .int .i64 n, .string s, .slice A l.length c, .slice A' ks.length c'] 26 (0, 0))) := (hcp.old (by omega) (by omega)).trans HBX.out
      have p3 := cell_of_row wr w.heap.size 3 _ 26 (0, 0) hbxr.out
      simp only [List.getElem?_toArray, List.getElem?_cons_succ, List.getElem?_cons_zero] at p3
      have HBW : Hid (Below w.heap.size w wr) := HW2.out.trans (hcp.ch.below (B := w.heap.size) (by omega) (by omega))
      clear hcp
      by_cases hlt : i < l.length
      · have HCD := hid (HC.out.below (Below.refl _ wr).drew)
        have hbd : Below w.heap.size w wr.drew := HBW.out.trans (Below.mono (Below.refl wr.heap.size wr).drew HBW.out.size)
        obtain ⟨b, o, cc, k', n', s', A1, m1, c1, A2, m2, c2, he, q0, q1, q2, q3, q4, hva⟩ := items_at (HR.out.below hbd (by omega)) (HV.out.below hbd) i hlt
        injection he with he1 he2 he3
        subst he1
        clear he2 he3 hbd
        have hbxd : Hid (wr.drew.heap[w.heap.size]? = some (.cells #[.int .i64 k, .int .i64 n, .string s, .slice (some ⟨b, o, none⟩) l.length c, .slice A' ks.length c'] 26 (0, 0))) := hbxr.out
        have p3d := cell_of_row wr.drew w.heap.size 3 _ 26 (0, 0) hbxd.out
        simp only [List.getElem?_toArray, List.getElem?_cons_succ, List.getElem?_cons_zero] at p3d
        obtain ⟨_, _, _, g3, g4⟩ := HCD.out.cell
        have CI := hid (IH.out l[i] (List.getElem_mem hlt) _ wr.drew S hva)
        clear hva hbxd hbxr
        have hti : (l.take i).length = i := by rw [List.length_take, Nat.min_eq_left hi]
        obtain ⟨Ai, ci, hiv⟩ := HC.out.iform
        rw [hti] at hiv
        subst hiv
        have HTI := hid hti
        clear hti
        go_wp2_with fail
        go_region_law (first
          | (refine step_appVals (by rfl) _ _ (by rfl) w2.heap.size (.slice Ai i ci) _ i 1 _ [.int .i64 k3, .int .i64 n3, .string s3, .slice A3 m3 c3, .slice A4 m4 c4] (fun _ => True) (by rfl) (HIO.out _ (below_box _)) (by rfl) (src_item' _ _ _ _ _ _ _ _ (by simp) trivial) (HC2.out.one) (by omega) (by simp; omega) ?_; intro v3 w3 ho3 hb3 hg3 hat3; obtain ⟨A5, c5, hv5⟩ := own_form ho3; subst hv5; have HN := hid (HCD.out.app (by omega) (bstep HBA.out (below_box _)) (HC2.out.below (below_box _)) (by rw [HTI.out]; exact ho3) hg3 hat3); have hgr := HCD.out.grown (by omega) (bstep HBA.out (below_box _)) hg3; have e3 := cell_of_row w3 (w.heap.size + 1 + 1) 3 _ 26 (0, 0) hgr; have ef3 := freeOf hgr 3; simp only [List.getElem?_toArray, List.getElem?_cons_succ, List.getElem?_cons_zero] at e3; clear ho3 hb3 hg3 hat3 hgr)
          | (go_simp; go_at_call 27; (refine CI.out.mono ?_; rintro e wa ⟨a2, rfl, hva2, hba⟩; obtain ⟨cs2, rfl, hc2⟩ := hva2; obtain ⟨k3, n3, s3, A3, m3, c3, A4, m4, c4, rfl⟩ := hc2.form; have HC2 := hid hc2; have HBA := hid hba; have HCA := hid (HCD.out.below hba); obtain ⟨_, _, _, g3a, _⟩ := HCA.out.cell; have g3b := alloc_cell g3a; have HIO : Hid (∀ W, Below wa.heap.size wa W → W.ownsRow w2.heap.size 26 5 (.slice Ai i ci) i ic) := (fun W hW => by have := (HCA.out.below hW).io; rwa [HTI.out] at this); have hszw : w2.heap.size ≤ wa.heap.size := HCA.out.ch.size; clear hc2 hba)))
        all_goals
          go_wp2_with fail
          go_roundw
          case rel => exact ⟨i + 1, _, _, by omega, by go_num, by rw [take_succ_l l i hlt]; exact HN.out⟩
          case measure => simp [intOf]; omega
      · have ht : l.take i = l := List.take_of_length_le (by omega)
        rw [ht] at HC
        have HVA := hid (HC.out.va HO.out (B := w.heap.size) (by omega))
        have hbr1 : Hid (wr.heap[w.heap.size + 1]? = some (.cells #[.int .i64 0, .int .i64 0, .string ⟨#[]⟩, .slice none 0 0, .slice none 0 0] 26 (0, 0))) := (HC.out.old (by omega) (by omega)).trans HBR.out
        have z0 := cell_of_row wr (w.heap.size + 1) 0 _ 26 (0, 0) hbr1.out
        have z1 := cell_of_row wr (w.heap.size + 1) 1 _ 26 (0, 0) hbr1.out
        have z2 := cell_of_row wr (w.heap.size + 1) 2 _ 26 (0, 0) hbr1.out
        have z3 := cell_of_row wr (w.heap.size + 1) 3 _ 26 (0, 0) hbr1.out
        have z4 := cell_of_row wr (w.heap.size + 1) 4 _ 26 (0, 0) hbr1.out
        have f0 := freeOf hbr1.out 0
        have f1 := freeOf hbr1.out 1
        have f2 := freeOf hbr1.out 2
        have f3 := freeOf hbr1.out 3
        have f4 := freeOf hbr1.out 4
        simp only [List.getElem?_toArray, List.getElem?_cons_succ, List.getElem?_cons_zero] at z0 z1 z2 z3 z4
        obtain ⟨g0, g1, g2, g3, g4⟩ := HC.out.cell
        obtain ⟨Ai, ci, hiv⟩ := HC.out.iform
        subst hiv
        clear ht
        go_wp2_with fail
        refine bodyPost_ret (v := .agg #[.int .i64 k, .int .i64 n, .string s, .slice Ai l.length ci, .slice Ak ks.length ck]) (by simp [results, Try.results27, go_sem, z0, z1, z2, z3, z4]) rfl ⟨_, rfl, ?_, ?_⟩
        · obtain ⟨cs, e, hc⟩ := HVA.out
          refine ⟨cs, e, (VC_setCell (VC_setCell (VC_setCell (VC_setCell (VC_setCell hc _ _ ?_) _ _ ?_) _ _ ?_) _ _ ?_) _ _ ?_).more (fun b hb _ => hb.1)⟩ <;> (intro b hb e; have := hb.2; simp at e; omega)
        · exact ((((HBW.out.setCell (p := ⟨w.heap.size + 1, 0, none⟩) (Nat.le_succ _) _).setCell (p := ⟨w.heap.size + 1, 1, none⟩) (Nat.le_succ _) _).setCell (p := ⟨w.heap.size + 1, 2, none⟩) (Nat.le_succ _) _).setCell (p := ⟨w.heap.size + 1, 3, none⟩) (Nat.le_succ _) _).setCell (p := ⟨w.heap.size + 1, 4, none⟩) (Nat.le_succ _) _
end Go.Proofs.Ytpoofeiajmkfdaa
