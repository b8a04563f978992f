/-
  Map of the program: its walk.
-/
import Derived.Test.YtpoofeiajmkfdaaVMap
namespace Go.Proofs.Ytpoofeiajmkfdaa
open Go.RowKit

theorem own_form {w : World} {b : Nat} {e : TypeId} {s n : Nat} {v : Value} {xs : List Value} (h : w.ownsRow b e s v n xs) : ∃ A c, v = .slice A n c := by
  obtain ⟨A, c, hv, _⟩ := (RdN.of_own h (S := fun _ => True) (fun _ _ => trivial)).form
  exact ⟨A, c, hv⟩

theorem src_item' (w : World) (b : Nat) (c0 c1 c2 c3 c4 : Value) (S : Nat → Prop) (hb : b = w.heap.size) (hS : S b) : RdN (w.alloc (.cells #[c0, c1, c2, c3, c4] 26)) S 5 (.slice (some ⟨b, 0, none⟩) 1 1) 1 [c0, c1, c2, c3, c4] := by
  subst hb; exact src_item w c0 c1 c2 c3 c4 S hS
/-- What Map leaves. -/
def MapPost (w : World) (r : V × Int) (e : Ending) (w' : World) : Prop := ∃ a, e = .returned (.tuple #[a, .int .i64 r.2]) ∧ VA w' (fun b => w.heap.size ≤ b) a r.1 ∧ Below w.heap.size w w'

def nullV : V := .mk 0 0 ⟨#[]⟩ [] []
theorem null_VA (w : World) (S : Nat → Prop) : VA w S (.agg #[.int .i64 0, .int .i64 0, .string ⟨#[]⟩, .slice none 0 0, .slice none 0 0]) nullV :=
  VA.mk_ ⟨by omega, by omega, by omega, by omega, by simp [ByteArray.size], by simp, by simp⟩ RdN.none_ VsC.nil_ RdN.none_

/-- The pairs as keys and values. -/
def zsOf (ps : List (PD × V)) : List KV := ps.map fun p => (p.1.1, p.2)
theorem zs_VsC {w : World} {S : Nat → Prop} : ∀ (ps : List (PD × V)), (∀ p ∈ ps, VC w S p.2 (encI p.1.2)) → VsC w (fun _ => True) ((zsOf ps).map Prod.snd) (ps.flatMap fun p => encI p.1.2)
  | [], _ => by simp [zsOf, VsC_nil]
  | p :: ps, h => by
    have ih := zs_VsC ps (fun q hq => h q (by simp [hq]))
    simp only [zsOf, List.map_cons, List.flatMap_cons]
    rw [VsC_cons]
    exact ⟨_, _, rfl, (h p (by simp)).more (fun _ _ _ => trivial), ih⟩

/-- Neighbours' keys differ, so far. -/
def NeTo (ps : List (PD × V)) (i : Nat) : Prop := ∀ j (h : j + 1 < ps.length), j + 1 < i → ps[j].1.1 ≠ ps[j + 1].1.1
theorem NeTo.next0 (ps : List (PD × V)) : NeTo ps (0 + 1) := fun j _ h => absurd h (by omega)
theorem NeTo.next {ps : List (PD × V)} {i : Nat} (h : NeTo ps (i + 1)) (hi : i + 1 < ps.length) (hne : ps[i].1.1 ≠ ps[i + 1].1.1) : NeTo ps (i + 1 + 1) := fun j hj hj2 => by
  by_cases e : j = i
  · subst e; exact hne
  · exact h j hj (by omega)

set_option maxRecDepth 100000 in
set_option maxHeartbeats 4000000 in
theorem map_any (ks : List ByteArray) (l : List V) (kv0 iv0 : Value) (ics : List Value) (w : World) (S : Nat → Prop) (hn : ks.length ≤ 1099511627776) (_hn2 : l.length ≤ 9223372036854775807) (hok : ∀ x ∈ ks, x.size ≤ 9223372036854775807)
    (hk : RdN w S 1 kv0 ks.length (ks.map Value.string)) (hr : RdN w S 5 iv0 l.length ics) (hvs : VsC w S l ics) :
    Calls Try.prog 13 #[kv0, iv0] w (MapPost w (mapV ks l)) := by
  have HK := hid hk
  have HR := hid hr
  have HV := hid hvs
  obtain ⟨A, c, rfl, _, _⟩ := hk.form
  obtain ⟨A', c', rfl, _, _⟩ := hr.form
  have HMV : Hid (mapV ks l = if ks.length ≠ l.length then (nullV, 6) else if ¬ ks.Nodup then (nullV, 9) else if V.within (kvV (srtK (ks.zip l))) = true then (kvV (srtK (ks.zip l)), 0) else (nullV, 6)) := by show _ = _; rfl
  generalize mapV ks l = r at HMV
  clear hk hr hvs
  by_cases hlen : ks.length = l.length
  · have HLEN := hid hlen
    have hb0 : ((l.length : Int) != (ks.length : Int)) = false := by simp [hlen]
    have HS := hid (fun W (hW : Below w.heap.size w W) => sortedPairs_any ks l (.slice A ks.length c) (.slice A' l.length c') ics W (fun b => S b ∧ b < w.heap.size) hlen hn ((HK.out.more (fun b hb hb' => ⟨hb, hb'⟩) (by omega)).below hW (by omega)) ((HR.out.more (fun b hb hb' => ⟨hb, hb'⟩) (by omega)).below hW (by omega)) ((HV.out.more (fun b hb hb' => ⟨hb, hb'⟩)).below hW))
    have HNV := hid (fun (w : World) (S : Nat → Prop) => null_VA w S)
    have HOK := hid hok
    clear hlen hok
    go_enter Try.func13, Try.ntmps13
    go_wp2_with fail
    refine (HS.out _ (below_box _)).mono ?_
    rintro e w1 ⟨g, ps, rfl, hg, hpl, hcells, hvcs, hperm, hsorted, hb1⟩
    have HPL := hid hpl
    have hplle : ps.length ≤ ks.length := by omega
    have hplge : ks.length ≤ ps.length := by omega
    have HPS : Hid (Ps (fun b => S b ∧ b < w.heap.size) g ps w1) := ⟨hcells, hvcs⟩
    have HPERM := hid hperm
    have HSORT := hid hsorted
    have HGLT : Hid (0 < ps.length → g < w1.heap.size) := fun h => by
      obtain ⟨_, _, _, _, _, _, _, _, _, _, _, q, _⟩ := HPS.out.at_ 0 h
      exact World.block_lt_of_cell? w1 _ q
    have HG := hid hg
    have HB1 := hid hb1
    have hwz : w.heap.size < w1.heap.size := by have := hb1.size; simp at this; omega
    -- the result's cell
    have HRC : Hid (w1.heap[w.heap.size]? = some (.cells #[.int .i64 0, .int .i64 0, .string ⟨#[]⟩, .slice none 0 0, .slice none 0 0] 26 (0, 0))) := (hb1.block _ (by simp)).trans (heap_alloc_new w _)
    clear hpl hcells hvcs hperm hsorted hg hb1
    obtain ⟨gm, hgm⟩ : ∃ gm, gm = w1.heap.size := ⟨_, rfl⟩
    have HGM := hid hgm
    go_wp2_with fail
    obtain ⟨w2, hw2⟩ : ∃ w2, w2 = w1.alloc (.cells #[.int .i64 5, .int .i64 0, .string ⟨#[]⟩, .slice none 0 0, .slice none 0 0] 26) := ⟨_, rfl⟩
    have HW2 := hid hw2
    rw [← hw2, ← hgm]
    have hgm2 : gm < w2.heap.size := by rw [hw2, hgm]; simp
    have HM0 : Hid (Mp w2 gm (.slice none 0 0) (.slice none 0 0) 0 0 [] [] w2) := ⟨by rw [hw2, hgm]; exact heap_alloc_new w1 _, World.ownsRow_nil _ _ _ _, World.ownsRow_nil _ _ _ _, Ch.refl⟩
    have HPS2 : Hid (Ps (fun b => S b ∧ b < w.heap.size) g ps w2) := HPS.out.ch (gm := gm) (by rw [hw2]; exact Ch.of_below (below_box _)) (fun h => by have := HGLT.out h; omega) (fun b hb => by have := hb.2; omega)
    have HB2 : Hid (Below w.heap.size w w2) := by
      show Below _ _ _
      rw [hw2]
      exact (below_box _).trans ((HB1.out.trans ((below_box _).mono HB1.out.size)).mono (by simp))
    have HRC2 : Hid (w2.heap[w.heap.size]? = some (.cells #[.int .i64 0, .int .i64 0, .string ⟨#[]⟩, .slice none 0 0, .slice none 0 0] 26 (0, 0))) := by
      show _ = _
      rw [hw2]
      exact (Below.heap_alloc _ _ _ hwz).trans HRC.out
    have HGNE : Hid (0 < ps.length → g ≠ gm) := fun h => by have := HGLT.out h; have := HGM.out; omega
    have hwgm : w.heap.size < gm := by omega
    clear hw2 hgm HPS HRC
    go_loopw [22] (fun v22 wr => ∃ (i : Nat) (kv iv : Value), i ≤ ks.length ∧ v22 = .int .i64 (i : Int) ∧ Mp w2 gm kv iv i i ((ps.take i).map fun p => Value.string p.1.1) ((ps.take i).flatMap fun p => encI p.1.2) wr ∧ Hid (NeTo ps i)) (fun v22 _ => ks.length - (intOf v22).toNat)
    case atStart => exact ⟨0, _, _, Nat.zero_le _, rfl, HM0.out, fun j _ h => absurd h (by omega)⟩
    case round =>
      clear HM0
      obtain ⟨i, kv, iv, hi, rfl, hm, hne⟩ := hrel
      have HMr := hid hm
      have hgmr := hm.lt
      have hsz2 := hm.2.2.2.size
      have HRCr : Hid (wr.heap[w.heap.size]? = some (.cells #[.int .i64 0, .int .i64 0, .string ⟨#[]⟩, .slice none 0 0, .slice none 0 0] 26 (0, 0))) := (hm.2.2.2.block _ (by omega) (fun e => by injection e; omega)).trans HRC2.out
      have HPSr := hid (HPS2.out.ch hm.2.2.2 HGNE.out (fun b hb => by have := hb.2; omega))
      clear hm
      by_cases hlt : i < ks.length
      · have hlt : i < ps.length := by omega
        obtain ⟨x, k', n', s', Ai, m1, ci, Ak, m2, ck, hx, y0, y1, y2, y3, y4, y5⟩ := HPSr.out.at_ i hlt
        have HX := hid hx
        clear hx
        rcases i with _ | i
        · have HNEW := hid (NeTo.next0 ps)
          have hz0 : decide ((0 : Int) < 0) = false := by decide
          go_wp2_with fail
          go_quiet (fail)
          have HMB : Hid (Mp w2 gm kv iv 0 0 _ _ ((wr.alloc (.cells #[.string x, .int .i64 k', .int .i64 n', .string s', .slice Ai m1 ci, .slice Ak m2 ck] 67)).drewN nq)) := HMr.out.below (below_drewN (below_box _) nq)
          have HBB : Hid (((wr.alloc (.cells #[.string x, .int .i64 k', .int .i64 n', .string s', .slice Ai m1 ci, .slice Ak m2 ck] 67)).drewN nq).heap[wr.heap.size]? = some (.cells #[.string x, .int .i64 k', .int .i64 n', .string s', .slice Ai m1 ci, .slice Ak m2 ck] 67 (0, 0)) ∧ wr.heap.size < ((wr.alloc (.cells #[.string x, .int .i64 k', .int .i64 n', .string s', .slice Ai m1 ci, .slice Ak m2 ck] 67)).drewN nq).heap.size) := ⟨heap_alloc_new wr _, by simp⟩
          generalize (wr.alloc (.cells #[.string x, .int .i64 k', .int .i64 n', .string s', .slice Ai m1 ci, .slice Ak m2 ck] 67)).drewN nq = wB at HMB HBB ⊢
          clear y0 y1 y2 y3 y4 y5
          obtain ⟨m0, m1', m2', m3', m4'⟩ := HMB.out.cell
          have b0 := cell_of_row wB wr.heap.size 0 _ 67 (0, 0) HBB.out.1
          have b1 := cell_of_row wB wr.heap.size 1 _ 67 (0, 0) HBB.out.1
          have b2 := cell_of_row wB wr.heap.size 2 _ 67 (0, 0) HBB.out.1
          have b3 := cell_of_row wB wr.heap.size 3 _ 67 (0, 0) HBB.out.1
          have b4 := cell_of_row wB wr.heap.size 4 _ 67 (0, 0) HBB.out.1
          have b5 := cell_of_row wB wr.heap.size 5 _ 67 (0, 0) HBB.out.1
          simp only [List.getElem?_toArray, List.getElem?_cons_succ, List.getElem?_cons_zero] at b0 b1 b2 b3 b4 b5
          have hne1 : wr.heap.size ≠ gm := by omega
          have hne2 : gm ≠ wr.heap.size := by omega
          have hbase0 := HMB.out.2.2.2.size
          have HKO : Hid (∀ k, kv.ownBlock = some k → k < wr.heap.size) := fun k hk => (World.ownsRow.lt HMr.out.2.1 k hk).2
          go_wp2_with (first
            | (at_builtin; refine wpList_appStrs rfl (.tmp 42) (.tmp 45) rfl w2.heap.size kv _ 0 1 _ [.string x] (fun _ => True) rfl (HMB.out.below (below_box _)).2.1 rfl (src_key _ x _ trivial) (by intro u hu; simp at hu; subst hu; rfl) (by omega) (by simp; omega) ?_; intro v1 wD ho1 hbl1 hg1 hat1
               obtain ⟨A1, c1, hv1⟩ := own_form ho1
               subst hv1
               have HC := hid (HMB.out.below (below_box (.cells #[.string x] 9)))
               have HG1 := hid hg1
               have HE := hid (HC.out.storeK hg1 hgm2 ho1)
               have HD := hid (HC.out.grownK hg1 hgm2).1
               have d4 := cell_of_row wD gm 4 _ 26 (0, 0) HD.out
               have d3 := cell_of_row wD gm 3 _ 26 (0, 0) HD.out
               have df4 := freeOf HD.out 4
               simp only [List.getElem?_toArray, List.getElem?_cons_succ, List.getElem?_cons_zero] at d4 d3
               have HBXD : Hid (wD.heap[wr.heap.size]? = some (.cells #[.string x, .int .i64 k', .int .i64 n', .string s', .slice Ai m1 ci, .slice Ak m2 ck] 67 (0, 0))) := (hg1.block _ (by have := HBB.out.2; simp; omega) (fun e => by have := HKO.out _ e.symm; omega)).trans ((Below.heap_alloc _ _ _ (by have := HBB.out.2; omega)).trans HBB.out.1)
               have x1 := cell_of_row wD wr.heap.size 1 _ 67 (0, 0) HBXD.out
               have x2 := cell_of_row wD wr.heap.size 2 _ 67 (0, 0) HBXD.out
               have x3 := cell_of_row wD wr.heap.size 3 _ 67 (0, 0) HBXD.out
               have x4 := cell_of_row wD wr.heap.size 4 _ 67 (0, 0) HBXD.out
               have x5 := cell_of_row wD wr.heap.size 5 _ 67 (0, 0) HBXD.out
               simp only [List.getElem?_toArray, List.getElem?_cons_succ, List.getElem?_cons_zero] at x1 x2 x3 x4 x5
               clear ho1 hbl1 hg1 hat1 HD)
            | (at_builtin; refine wpList_appVals rfl (.tmp 49) (.tmp 52) rfl w2.heap.size iv _ 0 1 _ [.int .i64 k', .int .i64 n', .string s', .slice Ai m1 ci, .slice Ak m2 ck] (fun _ => True) rfl (HE.out.below (below_box _)).2.2.1 rfl (src_item' _ _ _ _ _ _ _ _ (by simp) trivial) (by intro u hu; simp only [List.mem_cons, List.not_mem_nil, or_false] at hu; rcases hu with rfl | rfl | rfl | rfl | rfl <;> rfl) (by omega) (by have := HE.out.2.2.2.size; simp at this; simp; omega) ?_; intro v2 wG ho2 hbl2 hg2 hat2
               obtain ⟨A2, c2, hv2⟩ := own_form ho2
               subst hv2
               have HF := hid (HE.out.below (below_box (.cells #[.int .i64 k', .int .i64 n', .string s', .slice Ai m1 ci, .slice Ak m2 ck] 26)))
               have HH := hid (HF.out.storeI hg2 hgm2 ho2)
               have HD2 := hid (HF.out.grownI hg2 hgm2).1
               have e3 := cell_of_row wG gm 3 _ 26 (0, 0) HD2.out
               have ef3 := freeOf HD2.out 3
               simp only [List.getElem?_toArray, List.getElem?_cons_succ, List.getElem?_cons_zero] at e3
               clear ho2 hbl2 hg2 hat2 HD2))
          go_roundw
          case rel => exact ⟨0 + 1, _, _, by omega, by go_num, (by rw [keys_take hlt, items_take hlt, HX.out]; exact HH.out), HNEW.out⟩
          case measure => simp [intOf]; omega
        · obtain ⟨xp, kp, np, sp, Ap, mp, cp, Aq, mq, cq, hxp, v0, v1', v2', v3', v4', v5'⟩ := HPSr.out.at_ i (by omega)
          have HXP := hid hxp
          have v0a := alloc_cell v0
          clear hxp v0 v1' v2' v3' v4' v5'
          have hz0 : decide ((0 : Int) < (i : Int) + 1) = true := decide_eq_true (by omega)
          have hik : i < ks.length := by omega
          have hik1 : (i : Int) < (ks.length : Int) := by omega
          have hik2 : (0 : Int) ≤ (i : Int) := by omega
          have hz1 : (0 : Int) < (i : Int) + 1 := by omega
          have hw1 : IntKind.i64.wrap ((i : Int) + 1 - 1) = (i : Int) := by rw [Int.add_sub_cancel]; exact IntWalk.i64_in _ (by omega)
          have hw2 : IntKind.i64.wrap (i : Int) = (i : Int) := IntWalk.i64_in _ (by omega)
          by_cases hxe : xp = x
          · have HBAD : Hid (ps[i].1.1 = ps[i + 1].1.1) := by show _ = _; rw [HX.out, HXP.out]; exact hxe
            have HWr := hid (HB2.out.trans (HMr.out.2.2.2.below (B := w.heap.size) (by omega) (by omega)))
            have HRES : Hid (r = (nullV, 9)) := by
              show _ = _
              have h1 : (ps.map fun p => ((p.1.1, p.2) : KV)).Perm (ks.zip l) := HPERM.out
              have h2 := not_nodup h1 (i := i) (by simpa using hlt) (by simpa using HBAD.out)
              rw [List.map_fst_zip (by have := HLEN.out; omega)] at h2
              rw [HMV.out, if_neg (by have := HLEN.out; simp [this]), if_pos h2]
            subst hxe
            go_wp2_with fail
            go_quiet (fail)
            have HRB : Hid (((wr.alloc (.cells #[.string xp, .int .i64 k', .int .i64 n', .string s', .slice Ai m1 ci, .slice Ak m2 ck] 67)).drewN nq).heap[w.heap.size]? = some (.cells #[.int .i64 0, .int .i64 0, .string ⟨#[]⟩, .slice none 0 0, .slice none 0 0] 26 (0, 0)) ∧ Below w.heap.size w ((wr.alloc (.cells #[.string xp, .int .i64 k', .int .i64 n', .string s', .slice Ai m1 ci, .slice Ak m2 ck] 67)).drewN nq)) := ⟨(Below.heap_alloc _ _ _ (by omega)).trans HRCr.out, below_drewN (HWr.out.trans ((below_box _).mono (by omega))) nq⟩
            generalize (wr.alloc (.cells #[.string xp, .int .i64 k', .int .i64 n', .string s', .slice Ai m1 ci, .slice Ak m2 ck] 67)).drewN nq = wB at HRB ⊢
            clear y0 y1 y2 y3 y4 y5 v0a
            have b0 := cell_of_row wB w.heap.size 0 _ 26 (0, 0) HRB.out.1
            have b1 := cell_of_row wB w.heap.size 1 _ 26 (0, 0) HRB.out.1
            have b2 := cell_of_row wB w.heap.size 2 _ 26 (0, 0) HRB.out.1
            have b3 := cell_of_row wB w.heap.size 3 _ 26 (0, 0) HRB.out.1
            have b4 := cell_of_row wB w.heap.size 4 _ 26 (0, 0) HRB.out.1
            have f0 := freeOf HRB.out.1 0
            have f1 := freeOf HRB.out.1 1
            have f2 := freeOf HRB.out.1 2
            have f3 := freeOf HRB.out.1 3
            have f4 := freeOf HRB.out.1 4
            simp only [List.getElem?_toArray, List.getElem?_cons_succ, List.getElem?_cons_zero] at b0 b1 b2 b3 b4
            go_wp2_with fail
            refine bodyPost_ret (v := .tuple #[.agg #[.int .i64 0, .int .i64 0, .string ⟨#[]⟩, .slice none 0 0, .slice none 0 0], .int .i64 9]) (by simp [results, Try.results13, go_sem, b0, b1, b2, b3, b4]) rfl ⟨_, by rw [HRES.out], by rw [HRES.out]; exact HNV.out _ _, ?_⟩
            exact ((((HRB.out.2.setCell (p := ⟨w.heap.size, 0, none⟩) (Nat.le_refl _) _).setCell (p := ⟨w.heap.size, 1, none⟩) (Nat.le_refl _) _).setCell (p := ⟨w.heap.size, 2, none⟩) (Nat.le_refl _) _).setCell (p := ⟨w.heap.size, 3, none⟩) (Nat.le_refl _) _).setCell (p := ⟨w.heap.size, 4, none⟩) (Nat.le_refl _) _
          · have HNEW : Hid (NeTo ps (i + 1 + 1)) := hne.out.next hlt (by rw [HX.out, HXP.out]; exact hxe)
            have hx1 : ¬ xp.toList = x.toList := fun h => hxe (ba_ext h)
            have hx2 : (xp.toList == x.toList) = false := by simp [hx1]
            clear hxe
            go_wp2_with fail
            go_quiet (fail)
            have HMB : Hid (Mp w2 gm kv iv (i + 1) (i + 1) _ _ ((wr.alloc (.cells #[.string x, .int .i64 k', .int .i64 n', .string s', .slice Ai m1 ci, .slice Ak m2 ck] 67)).drewN nq)) := HMr.out.below (below_drewN (below_box _) nq)
            have HBB : Hid (((wr.alloc (.cells #[.string x, .int .i64 k', .int .i64 n', .string s', .slice Ai m1 ci, .slice Ak m2 ck] 67)).drewN nq).heap[wr.heap.size]? = some (.cells #[.string x, .int .i64 k', .int .i64 n', .string s', .slice Ai m1 ci, .slice Ak m2 ck] 67 (0, 0)) ∧ wr.heap.size < ((wr.alloc (.cells #[.string x, .int .i64 k', .int .i64 n', .string s', .slice Ai m1 ci, .slice Ak m2 ck] 67)).drewN nq).heap.size) := ⟨heap_alloc_new wr _, by simp⟩
            generalize (wr.alloc (.cells #[.string x, .int .i64 k', .int .i64 n', .string s', .slice Ai m1 ci, .slice Ak m2 ck] 67)).drewN nq = wB at HMB HBB ⊢
            clear y0 y1 y2 y3 y4 y5
            obtain ⟨m0, m1', m2', m3', m4'⟩ := HMB.out.cell
            have b0 := cell_of_row wB wr.heap.size 0 _ 67 (0, 0) HBB.out.1
            have b1 := cell_of_row wB wr.heap.size 1 _ 67 (0, 0) HBB.out.1
            have b2 := cell_of_row wB wr.heap.size 2 _ 67 (0, 0) HBB.out.1
            have b3 := cell_of_row wB wr.heap.size 3 _ 67 (0, 0) HBB.out.1
            have b4 := cell_of_row wB wr.heap.size 4 _ 67 (0, 0) HBB.out.1
            have b5 := cell_of_row wB wr.heap.size 5 _ 67 (0, 0) HBB.out.1
            simp only [List.getElem?_toArray, List.getElem?_cons_succ, List.getElem?_cons_zero] at b0 b1 b2 b3 b4 b5
            have hne1 : wr.heap.size ≠ gm := by omega
            have hne2 : gm ≠ wr.heap.size := by omega
            have hbase0 := HMB.out.2.2.2.size
            have HKO : Hid (∀ k, kv.ownBlock = some k → k < wr.heap.size) := fun k hk => (World.ownsRow.lt HMr.out.2.1 k hk).2
            go_wp2_with (first
              | (at_builtin; refine wpList_appStrs rfl (.tmp 42) (.tmp 45) rfl w2.heap.size kv _ (i + 1) 1 _ [.string x] (fun _ => True) rfl (HMB.out.below (below_box _)).2.1 rfl (src_key _ x _ trivial) (by intro u hu; simp at hu; subst hu; rfl) (by omega) (by simp; omega) ?_; intro v1 wD ho1 hbl1 hg1 hat1
                 obtain ⟨A1, c1, hv1⟩ := own_form ho1
                 subst hv1
                 have HC := hid (HMB.out.below (below_box (.cells #[.string x] 9)))
                 have HG1 := hid hg1
                 have HE := hid (HC.out.storeK hg1 hgm2 ho1)
                 have HD := hid (HC.out.grownK hg1 hgm2).1
                 have d4 := cell_of_row wD gm 4 _ 26 (0, 0) HD.out
                 have d3 := cell_of_row wD gm 3 _ 26 (0, 0) HD.out
                 have df4 := freeOf HD.out 4
                 simp only [List.getElem?_toArray, List.getElem?_cons_succ, List.getElem?_cons_zero] at d4 d3
                 have HBXD : Hid (wD.heap[wr.heap.size]? = some (.cells #[.string x, .int .i64 k', .int .i64 n', .string s', .slice Ai m1 ci, .slice Ak m2 ck] 67 (0, 0))) := (hg1.block _ (by have := HBB.out.2; simp; omega) (fun e => by have := HKO.out _ e.symm; omega)).trans ((Below.heap_alloc _ _ _ (by have := HBB.out.2; omega)).trans HBB.out.1)
                 have x1 := cell_of_row wD wr.heap.size 1 _ 67 (0, 0) HBXD.out
                 have x2 := cell_of_row wD wr.heap.size 2 _ 67 (0, 0) HBXD.out
                 have x3 := cell_of_row wD wr.heap.size 3 _ 67 (0, 0) HBXD.out
                 have x4 := cell_of_row wD wr.heap.size 4 _ 67 (0, 0) HBXD.out
                 have x5 := cell_of_row wD wr.heap.size 5 _ 67 (0, 0) HBXD.out
                 simp only [List.getElem?_toArray, List.getElem?_cons_succ, List.getElem?_cons_zero] at x1 x2 x3 x4 x5
                 clear ho1 hbl1 hg1 hat1 HD)
              | (at_builtin; refine wpList_appVals rfl (.tmp 49) (.tmp 52) rfl w2.heap.size iv _ (i + 1) 1 _ [.int .i64 k', .int .i64 n', .string s', .slice Ai m1 ci, .slice Ak m2 ck] (fun _ => True) rfl (HE.out.below (below_box _)).2.2.1 rfl (src_item' _ _ _ _ _ _ _ _ (by simp) trivial) (by intro u hu; simp only [List.mem_cons, List.not_mem_nil, or_false] at hu; rcases hu with rfl | rfl | rfl | rfl | rfl <;> rfl) (by omega) (by have := HE.out.2.2.2.size; simp at this; simp; omega) ?_; intro v2 wG ho2 hbl2 hg2 hat2
                 obtain ⟨A2, c2, hv2⟩ := own_form ho2
                 subst hv2
                 have HF := hid (HE.out.below (below_box (.cells #[.int .i64 k', .int .i64 n', .string s', .slice Ai m1 ci, .slice Ak m2 ck] 26)))
                 have HH := hid (HF.out.storeI hg2 hgm2 ho2)
                 have HD2 := hid (HF.out.grownI hg2 hgm2).1
                 have e3 := cell_of_row wG gm 3 _ 26 (0, 0) HD2.out
                 have ef3 := freeOf HD2.out 3
                 simp only [List.getElem?_toArray, List.getElem?_cons_succ, List.getElem?_cons_zero] at e3
                 clear ho2 hbl2 hg2 hat2 HD2))
            go_roundw
            case rel => exact ⟨(i + 1) + 1, _, _, by omega, by go_num, (by rw [keys_take hlt, items_take hlt, HX.out]; exact HH.out), HNEW.out⟩
            case measure => simp [intOf]; omega
      · have hil : i = ps.length := by omega
        have htk : ps.take i = ps := List.take_of_length_le (by omega)
        have hmm := HMr.out
        rw [htk] at hmm
        obtain ⟨hmb, hmk, hmi, hmc⟩ := hmm
        have hzp : (zsOf ps).Perm (ks.zip l) := HPERM.out
        obtain ⟨hz1, hz2⟩ := sorted_srtK hzp (fun a b hab h => by
            have := HSORT.out a b hab (by simpa [zsOf] using h)
            simpa [zsOf] using this) (fun j h => by
            have := hne.out j (by simpa [zsOf] using h) (by simp [zsOf] at h; omega)
            simpa [zsOf] using this)
        rw [List.map_fst_zip (by have := HLEN.out; omega)] at hz2
        have hzl : (zsOf ps).length = ks.length := by simp [zsOf]; omega
        have HVA : Hid (VA wr (fun _ => True) (.agg #[.int .i64 5, .int .i64 0, .string ⟨#[]⟩, iv, kv]) (kvV (zsOf ps))) := by
          refine VA.mk_ ⟨by omega, by omega, by omega, by omega, by simp [ByteArray.size], fun y hy => ?_, by simp; omega⟩ ?_ (zs_VsC ps HPSr.out.2 ) ?_
          · obtain ⟨z, hzm, rfl⟩ := List.mem_map.1 hy
            exact HOK.out _ (List.of_mem_zip (hzp.subset hzm)).1
          · have := RdN.of_own hmi (S := fun _ => True) (fun _ _ => trivial)
            rw [hil] at this
            simpa [zsOf] using this
          · have := RdN.of_own hmk (S := fun _ => True) (fun _ _ => trivial)
            rw [hil] at this
            simpa [zsOf, Function.comp_def] using this
        have HRES : Hid (r = if V.within (kvV (zsOf ps)) = true then (kvV (zsOf ps), 0) else (nullV, 6)) := by
          show _ = _
          rw [HMV.out, if_neg (by have := HLEN.out; simp [this]), if_neg (by simpa using hz2), ← hz1]
        have C58 := hid (within_any (kvV (zsOf ps)) _ wr _ HVA.out)
        have HWr := hid (HB2.out.trans (hmc.below (B := w.heap.size) (by omega) (by omega)))
        have HWSZ : Hid (V.within (kvV (zsOf ps)) = true → V.size (kvV (zsOf ps)) ≤ 1000) := fun h => by
          unfold V.within at h
          simp only [Bool.and_eq_true, decide_eq_true_eq] at h
          exact h.2
        obtain ⟨p0, p1, p2, p3, p4⟩ := HMr.out.cell
        generalize kvV (zsOf ps) = z at HVA HRES C58 HWSZ
        clear hmb hmk hmi hmc hzp hz1 hz2 hzl htk hil
        cases hw : V.within z
        · have HW := hid hw
          rw [hw] at C58
          have HRS : Hid (r = (nullV, 6)) := by show _ = _; rw [HRES.out, hw]; rfl
          clear hw
          go_wp2_with fail
          refine C58.out.mono ?_
          rintro e w3 ⟨rfl, hb3⟩
          have HRB : Hid (w3.heap[w.heap.size]? = some (.cells #[.int .i64 0, .int .i64 0, .string ⟨#[]⟩, .slice none 0 0, .slice none 0 0] 26 (0, 0)) ∧ Below w.heap.size w w3) := ⟨(hb3.block _ (by omega)).trans HRCr.out, bstep HWr.out hb3⟩
          clear p0 p1 p2 p3 p4 hb3
          have b0 := cell_of_row w3 w.heap.size 0 _ 26 (0, 0) HRB.out.1
          have b1 := cell_of_row w3 w.heap.size 1 _ 26 (0, 0) HRB.out.1
          have b2 := cell_of_row w3 w.heap.size 2 _ 26 (0, 0) HRB.out.1
          have b3 := cell_of_row w3 w.heap.size 3 _ 26 (0, 0) HRB.out.1
          have b4 := cell_of_row w3 w.heap.size 4 _ 26 (0, 0) HRB.out.1
          have f0 := freeOf HRB.out.1 0
          have f1 := freeOf HRB.out.1 1
          have f2 := freeOf HRB.out.1 2
          have f3 := freeOf HRB.out.1 3
          have f4 := freeOf HRB.out.1 4
          simp only [List.getElem?_toArray, List.getElem?_cons_succ, List.getElem?_cons_zero] at b0 b1 b2 b3 b4
          go_wp2_with fail
          refine bodyPost_ret (v := .tuple #[.agg #[.int .i64 0, .int .i64 0, .string ⟨#[]⟩, .slice none 0 0, .slice none 0 0], .int .i64 6]) (by simp [results, Try.results13, go_sem, b0, b1, b2, b3, b4]) rfl ⟨_, by rw [HRS.out], by rw [HRS.out]; exact HNV.out _ _, ?_⟩
          exact ((((HRB.out.2.setCell (p := ⟨w.heap.size, 0, none⟩) (Nat.le_refl _) _).setCell (p := ⟨w.heap.size, 1, none⟩) (Nat.le_refl _) _).setCell (p := ⟨w.heap.size, 2, none⟩) (Nat.le_refl _) _).setCell (p := ⟨w.heap.size, 3, none⟩) (Nat.le_refl _) _).setCell (p := ⟨w.heap.size, 4, none⟩) (Nat.le_refl _) _
        · rw [hw] at C58
          have HRS : Hid (r = (z, 0)) := by show _ = _; rw [HRES.out, hw]; rfl
          have hsz1000 := HWSZ.out hw
          have HSZ := hid hsz1000
          clear hw hsz1000
          go_wp2_with fail
          refine C58.out.mono ?_
          rintro e w3 ⟨rfl, hb3⟩
          have HB3 := hid hb3
          have HM3 := hid (HMr.out.below hb3)
          clear p0 p1 p2 p3 p4 hb3
          obtain ⟨p0, p1, p2, p3, p4⟩ := HM3.out.cell
          go_wp2_with fail
          refine (copy_any _ z _ _ (fun _ => True) (Nat.le_refl _) (by have := HSZ.out; omega) (HVA.out.below HB3.out)).mono ?_
          rintro e w4 ⟨a4, rfl, hva4, hb4⟩
          have HRB : Hid (w4.heap[w.heap.size]? = some (.cells #[.int .i64 0, .int .i64 0, .string ⟨#[]⟩, .slice none 0 0, .slice none 0 0] 26 (0, 0)) ∧ Below w.heap.size w w4) := ⟨(hb4.block _ (by have := HB3.out.size; omega)).trans ((HB3.out.block _ (by omega)).trans HRCr.out), bstep (bstep HWr.out HB3.out) hb4⟩
          have HS3 : Hid (w.heap.size < w3.heap.size) := by have := HB3.out.size; show _ < _; omega
          clear p0 p1 p2 p3 p4 hb4
          obtain ⟨cs4, rfl, hc4⟩ := hva4
          obtain ⟨k4, n4, s4, A4, m4, c4, A5, m5, c5, rfl⟩ := hc4.form
          have HC4 := hid hc4
          clear hc4
          have b0 := cell_of_row w4 w.heap.size 0 _ 26 (0, 0) HRB.out.1
          have b1 := cell_of_row w4 w.heap.size 1 _ 26 (0, 0) HRB.out.1
          have b2 := cell_of_row w4 w.heap.size 2 _ 26 (0, 0) HRB.out.1
          have b3 := cell_of_row w4 w.heap.size 3 _ 26 (0, 0) HRB.out.1
          have b4 := cell_of_row w4 w.heap.size 4 _ 26 (0, 0) HRB.out.1
          have f0 := freeOf HRB.out.1 0
          have f1 := freeOf HRB.out.1 1
          have f2 := freeOf HRB.out.1 2
          have f3 := freeOf HRB.out.1 3
          have f4 := freeOf HRB.out.1 4
          simp only [List.getElem?_toArray, List.getElem?_cons_succ, List.getElem?_cons_zero] at b0 b1 b2 b3 b4
          go_wp2_with fail
          refine bodyPost_ret (v := .tuple #[.agg #[.int .i64 k4, .int .i64 n4, .string s4, .slice A4 m4 c4, .slice A5 m5 c5], .int .i64 0]) (by simp [results, Try.results13, go_sem, b0, b1, b2, b3, b4]) rfl ⟨_, by rw [HRS.out], ?_, ?_⟩
          · rw [HRS.out]
            refine ⟨_, rfl, ?_⟩
            have hne : ∀ b, w3.heap.size ≤ b → b ≠ w.heap.size := fun b hb => by have := HS3.out; omega
            exact (VC_setCell (VC_setCell (VC_setCell (VC_setCell (VC_setCell HC4.out ⟨w.heap.size, 0, none⟩ _ hne) ⟨w.heap.size, 1, none⟩ _ hne) ⟨w.heap.size, 2, none⟩ _ hne) ⟨w.heap.size, 3, none⟩ _ hne) ⟨w.heap.size, 4, none⟩ _ hne).more fun b hb _ => by have := HS3.out; omega
          · exact ((((HRB.out.2.setCell (p := ⟨w.heap.size, 0, none⟩) (Nat.le_refl _) _).setCell (p := ⟨w.heap.size, 1, none⟩) (Nat.le_refl _) _).setCell (p := ⟨w.heap.size, 2, none⟩) (Nat.le_refl _) _).setCell (p := ⟨w.heap.size, 3, none⟩) (Nat.le_refl _) _).setCell (p := ⟨w.heap.size, 4, none⟩) (Nat.le_refl _) _
  · have hb0 : ((l.length : Int) != (ks.length : Int)) = true := by simp; omega
    have HX : Hid (r = (nullV, 6)) := by show _ = _; rw [HMV.out, if_pos hlen]
    have HNV := hid (fun (w : World) (S : Nat → Prop) => null_VA w S)
    clear HMV hlen
    go_enter Try.func13, Try.ntmps13
    go_wp2_with fail
    refine bodyPost_ret (v := .tuple #[.agg #[.int .i64 0, .int .i64 0, .string ⟨#[]⟩, .slice none 0 0, .slice none 0 0], .int .i64 6]) (by simp [results, Try.results13, go_sem]) rfl ⟨_, by rw [HX.out], by rw [HX.out]; exact HNV.out _ _, below_box _⟩
end Go.Proofs.Ytpoofeiajmkfdaa
