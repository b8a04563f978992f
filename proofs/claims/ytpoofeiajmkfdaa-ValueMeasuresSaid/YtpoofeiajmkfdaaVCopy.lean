/-
  copyAll and Copy of the program: contracts.
-/
import Derived.Test.YtpoofeiajmkfdaaVOwn
import Derived.Test.YtpoofeiajmkfdaaVSame
namespace Go.Proofs.Ytpoofeiajmkfdaa
open Go.RowKit

theorem run_make_rowN {P : Program} (t e : TypeId) (i : TypeInfo) (z : Value) (ht : P.underlying t = some (.slice e)) (hi : P.info? e = some i) (hz : i.zero = some z)
    (kl kc : IntKind) (n c : Nat) (hnc : n ≤ c) (hbytes : i.bytes * c ≤ 281474976710656) (h63 : c ≤ 9223372036854775807) (w : World) :
    (Instr.makeSlice t (.int kl (n : Int)) (.int kc (c : Int))).run P w = .ok (.slice (some ⟨w.heap.size, 0, none⟩) n c) (w.alloc (.cells (madeCells z.cells (c * i.size)) e)) := by
  have hb : (i.bytes : Int) * (c : Int) ≤ 281474976710656 := by
    have h : ((i.bytes * c : Nat) : Int) ≤ 281474976710656 := by omega
    rwa [Int.natCast_mul] at h
  have hr := run_make (P := P) w t e i z ht hi hz kl kc n c (by omega) (by omega) hb (by omega)
  simp only [Int.toNat_natCast] at hr
  exact hr

theorem make26 (n : Nat) (hn : n ≤ 1099511627776) : ∃ Z : Array Value, Z.size = n * 5 ∧ ∀ w : World, (Instr.makeSlice 23 (.int .i64 (n : Int)) (.int .i64 (n : Int))).run Try.prog w = .ok (.slice (some ⟨w.heap.size, 0, none⟩) n n) (w.alloc (.cells Z 26)) := by
  obtain ⟨i0, hi, hz0, hz1, hz2⟩ := info_parts Try.info26
  refine ⟨madeCells zeroV.cells (n * i0.size), by rw [size_madeCells, hz1], fun w => ?_⟩
  exact run_make_rowN 23 26 i0 _ Try.underlying23 hi hz0 .i64 .i64 n n (Nat.le_refl _) (by rw [hz2]; omega) (by omega) w

theorem set5 (cs tail : List Value) (t0 t1 t2 t3 t4 c0 c1 c2 c3 c4 : Value) (i : Nat) (h : cs.length = i * 5) :
    (((((cs ++ t0 :: t1 :: t2 :: t3 :: t4 :: tail).set (i * 5) c0).set (i * 5 + 1) c1).set (i * 5 + 2) c2).set (i * 5 + 3) c3).set (i * 5 + 4) c4 = cs ++ [c0, c1, c2, c3, c4] ++ tail := by
  rw [← h]
  have e : ∀ (j : Nat) (xs : List Value) (u : Value), (cs ++ xs).set (cs.length + j) u = cs ++ xs.set j u := by
    intro j xs u
    rw [List.set_append_right _ _ (by omega)]
    congr 2
    omega
  have e0 := e 0
  simp only [Nat.add_zero] at e0
  rw [e0, e, e, e, e]
  simp

/-- A row of n values at block g, the first i of them copied. -/
def Part (w0 wr : World) (g n : Nat) (l : List V) (i : Nat) : Prop :=
  ∃ cs tail, wr.ownsRow w0.heap.size 26 5 (.slice (some ⟨g, 0, none⟩) n n) n (cs ++ tail) ∧ VsC wr (fun b => w0.heap.size ≤ b ∧ b ≠ g) (l.take i) cs ∧ w0.heap.size ≤ g ∧ Below w0.heap.size w0 wr

section
variable {w0 wr w1 : World} {g n i : Nat} {l : List V}

theorem Part.start (w : World) (n : Nat) (l : List V) (hn : n ≤ 1099511627776) (Z : Array Value) (hZ : Z.size = n * 5) : Part w (w.alloc (.cells Z 26)) w.heap.size n l 0 := by
  refine ⟨[], Z.toList, ?_, by simp [VsC_nil], Nat.le_refl _, below_box _⟩
  exact World.ownsRow_lit w _ n (Nat.le_refl _) (by unfold maxLen; omega) hZ

theorem Part.keepS (hb : Below wr.heap.size wr w1) (h : Part w0 wr g n l i) : Part w0 w1 g n l i := by
  obtain ⟨cs, tail, h1, h2, h3, h4⟩ := h
  refine ⟨cs, tail, ?_, h2.below hb, h3, h4.trans (hb.mono h4.size)⟩
  rcases h1.2 with ⟨h', _⟩ | ⟨g', cap, cur, hv, hbg, hg, hrest⟩
  · simp at h'
  · exact ⟨h1.1, .inr ⟨g', cap, cur, hv, hbg, (hb.block g' (Array.getElem?_eq_some_iff.1 hg).1).trans hg, hrest⟩⟩

theorem Part.lt (h : Part w0 wr g n l i) : g < wr.heap.size := by
  obtain ⟨cs, tail, h1, _⟩ := h
  exact (World.ownsRow.lt h1 g rfl).2

theorem VsC_setCell {w : World} {S : Nat → Prop} {l : List V} {cs : List Value} (h : VsC w S l cs) (p : Addr) (u : Value) (hS : ∀ b, S b → b ≠ p.block) : VsC (w.setCell p u) S l cs :=
  h.keep (fun _ h _ => h) fun q v hq hc => (World.cell?_setCell_other w p q u (fun e => hS _ hq (by rw [e]))).trans hc
theorem VC_setCell {w : World} {S : Nat → Prop} {v : V} {cs : List Value} (h : VC w S v cs) (p : Addr) (u : Value) (hS : ∀ b, S b → b ≠ p.block) : VC (w.setCell p u) S v cs :=
  VC.keep (fun _ h _ => h) (fun q _ hq hc => (World.cell?_setCell_other w p q u (fun e => hS _ hq (by rw [e]))).trans hc) v cs h

theorem RdN_setCell {w : World} {S : Nat → Prop} {size n : Nat} {v : Value} {xs : List Value} (h : RdN w S size v n xs) (p : Addr) (u : Value) (hS : ∀ b, S b → b ≠ p.block) (hz : 0 < size) : RdN (w.setCell p u) S size v n xs :=
  h.keep (fun _ h _ => h) (fun q _ hq hc => (World.cell?_setCell_other w p q u (fun e => hS _ hq (by rw [e]))).trans hc) hz
/-- The cells that the next copy takes. -/
theorem Part.spare (h : Part w0 wr g n l i) (hi : i < n) (_hl : i ≤ l.length) : ∃ t0 t1 t2 t3 t4, wr.cell? ⟨g, i * 5, none⟩ = some t0 ∧ wr.cell? ⟨g, i * 5 + 1, none⟩ = some t1 ∧ wr.cell? ⟨g, i * 5 + 2, none⟩ = some t2 ∧ wr.cell? ⟨g, i * 5 + 3, none⟩ = some t3 ∧ wr.cell? ⟨g, i * 5 + 4, none⟩ = some t4 ∧ ∀ j, wr.frozen? ⟨g, j, none⟩ = false := by
  obtain ⟨cs, tail, h1, h2, _⟩ := h
  have hlen := h1.1
  have hc : ∀ j, j < 5 → ∃ t, wr.cell? ⟨g, i * 5 + j, none⟩ = some t := fun j hj => by
    rw [World.ownsRow.cellAt h1 (i * 5 + j) (by omega)]
    exact ⟨_, List.getElem?_eq_getElem (by omega)⟩
  obtain ⟨t0, q0⟩ := hc 0 (by omega)
  obtain ⟨t1, q1⟩ := hc 1 (by omega)
  obtain ⟨t2, q2⟩ := hc 2 (by omega)
  obtain ⟨t3, q3⟩ := hc 3 (by omega)
  obtain ⟨t4, q4⟩ := hc 4 (by omega)
  exact ⟨t0, t1, t2, t3, t4, q0, q1, q2, q3, q4, fun j => World.ownsRow.frozenAt h1 j⟩

def put5 (w : World) (g o : Nat) (c0 c1 c2 c3 c4 : Value) : World :=
  ((((w.setCell ⟨g, o, none⟩ c0).setCell ⟨g, o + 1, none⟩ c1).setCell ⟨g, o + 2, none⟩ c2).setCell ⟨g, o + 3, none⟩ c3).setCell ⟨g, o + 4, none⟩ c4

theorem Part.next {c0 c1 c2 c3 c4 : Value} (h : Part w0 wr g n l i) (hn : n = l.length) (hi : i < n) (hv : VC wr (fun b => w0.heap.size ≤ b ∧ b ≠ g) l[i] [c0, c1, c2, c3, c4]) : Part w0 (put5 wr g (i * 5) c0 c1 c2 c3 c4) g n l (i + 1) := by
  obtain ⟨cs, tail, h1, h2, h3, h4⟩ := h
  have hl := VsC.len h2
  rw [List.length_take, Nat.min_eq_left (by omega)] at hl
  have hlen := h1.1
  simp only [List.length_append] at hlen
  obtain ⟨t0, t1, t2, t3, t4, tail', rfl⟩ : ∃ t0 t1 t2 t3 t4 tail', tail = t0 :: t1 :: t2 :: t3 :: t4 :: tail' := by
    match tail, hlen with
    | t0 :: t1 :: t2 :: t3 :: t4 :: tail', _ => exact ⟨t0, t1, t2, t3, t4, tail', rfl⟩
    | [], h => simp at h; omega
    | [_], h => simp at h; omega
    | [_, _], h => simp at h; omega
    | [_, _, _], h => simp at h; omega
    | [_, _, _, _], h => simp at h; omega
  have s0 := (World.ownsRow.stored h1 (i * 5) c0)
  have s1 := (World.ownsRow.stored s0.1 (i * 5 + 1) c1)
  have s2 := (World.ownsRow.stored s1.1 (i * 5 + 2) c2)
  have s3 := (World.ownsRow.stored s2.1 (i * 5 + 3) c3)
  have s4 := (World.ownsRow.stored s3.1 (i * 5 + 4) c4)
  have hrow := s4.1
  rw [set5 cs tail' t0 t1 t2 t3 t4 c0 c1 c2 c3 c4 i hl] at hrow
  refine ⟨cs ++ [c0, c1, c2, c3, c4], tail', hrow, ?_, h3, ?_⟩
  · rw [take_succ_l l i (by omega)]
    refine VsC.app ?_ (VsC.one ?_)
    · exact VsC_setCell (VsC_setCell (VsC_setCell (VsC_setCell (VsC_setCell h2 _ _ (fun _ h => h.2)) _ _ (fun _ h => h.2)) _ _ (fun _ h => h.2)) _ _ (fun _ h => h.2)) _ _ (fun _ h => h.2)
    · exact VC_setCell (VC_setCell (VC_setCell (VC_setCell (VC_setCell hv _ _ (fun _ h => h.2)) _ _ (fun _ h => h.2)) _ _ (fun _ h => h.2)) _ _ (fun _ h => h.2)) _ _ (fun _ h => h.2)
  · exact ((((h4.setCell (p := ⟨g, i * 5, none⟩) h3 _).setCell (p := ⟨g, i * 5 + 1, none⟩) h3 _).setCell (p := ⟨g, i * 5 + 2, none⟩) h3 _).setCell (p := ⟨g, i * 5 + 3, none⟩) h3 _).setCell (p := ⟨g, i * 5 + 4, none⟩) h3 _

theorem Part.done (h : Part w0 wr g n l i) (hn : n = l.length) (hi : ¬ i < n) : ∃ cs, RdN wr (fun b => w0.heap.size ≤ b) 5 (.slice (some ⟨g, 0, none⟩) n n) n cs ∧ VsC wr (fun b => w0.heap.size ≤ b) l cs := by
  obtain ⟨cs, tail, h1, h2, h3, h4⟩ := h
  have ht : l.take i = l := List.take_of_length_le (by omega)
  rw [ht] at h2
  have hl := VsC.len h2
  have hlen := h1.1
  simp only [List.length_append] at hlen
  have : tail = [] := List.eq_nil_of_length_eq_zero (by omega)
  subst this
  refine ⟨cs, RdN.of_own (base := w0.heap.size) (e := 26) (by simpa using h1) (fun k hk => (World.ownsRow.lt h1 k hk).1), h2.more fun b hb _ => hb.1⟩
end

/-- What copyAll leaves: a slice of new memory with copies of the values. -/
def NewVals (w : World) (l : List V) (en : Ending) (w' : World) : Prop := ∃ v cs, en = .returned v ∧ RdN w' (fun b => w.heap.size ≤ b) 5 v l.length cs ∧ VsC w' (fun b => w.heap.size ≤ b) l cs ∧ Below w.heap.size w w'
/-- What Copy leaves. -/
def NewVal (w : World) (v : V) (en : Ending) (w' : World) : Prop := ∃ a, en = .returned a ∧ VA w' (fun b => w.heap.size ≤ b) a v ∧ Below w.heap.size w w'

def CopyOf (f : FuncId) (l : List V) : Prop := ∀ u ∈ l, ∀ (a : Value) (W : World) (S : Nat → Prop), VA W S a u → Calls Try.prog f #[a] W (NewVal W u)

set_option maxRecDepth 100000 in
set_option maxHeartbeats 1000000 in
theorem copyAll_of (l : List V) (H : CopyOf 28 l) (iv : Value) (ics : List Value) (w : World) (S : Nat → Prop) (hl : l.length ≤ 1099511627776) (hr : RdN w S 5 iv l.length ics) (hvs : VsC w S l ics) :
    Calls Try.prog 62 #[iv] w (NewVals w l) := by
  have HH := hid H
  obtain ⟨A, c, rfl, _, _⟩ := hr.form
  have HR := hid hr
  have HV := hid hvs
  clear hr hvs H
  by_cases h0 : l = []
  · subst h0
    go_enter Try.func62, Try.ntmps62
    go_wp2_with fail
    go_ret
    exact ⟨_, [], rfl, RdN.none_, VsC.nil_, Below.refl _ _⟩
  · have hpos : 0 < l.length := List.length_pos_iff.2 h0
    have hne : ((l.length : Int) == 0) = false := by simp; omega
    obtain ⟨Z, hZ, hmk⟩ := make26 l.length hl
    have HP := hid (Part.start w l.length l hl Z hZ)
    clear hZ
    clear h0
    go_enter Try.func62, Try.ntmps62
    go_wp2_with fail
    clear hmk
    go_loopw [14] (fun v14 wr => ∃ i : Nat, i ≤ l.length ∧ v14 = .int .i64 (i : Int) ∧ Part w wr w.heap.size l.length l i) (fun v14 _ => l.length - (intOf v14).toNat)
    case atStart => exact ⟨0, Nat.zero_le _, rfl, HP.out⟩
    case round =>
      clear HP
      obtain ⟨i, hi, rfl, hpt⟩ := hrel
      have hb : Below w.heap.size w wr := by obtain ⟨_, _, _, _, _, h⟩ := hpt; exact h
      have hglt := hpt.lt
      have HPT := hid hpt
      clear hpt
      by_cases hlt : i < l.length
      · obtain ⟨b, o, cc, k', n', s', A1, m1, c1, A2, m2, c2, he, q0, q1, q2, q3, q4, hva⟩ := items_at (HR.out.below hb (by omega)) (HV.out.below hb) i hlt
        injection he with he1 he2 he3
        subst he1
        clear he2 he3
        have HVA := hid hva
        have HU := hid (HH.out l[i] (List.getElem_mem hlt))
        clear hva
        go_wp2_with (go_at_call 28; refine (HU.out _ _ _ (HVA.out.below (below_box _))).mono ?_; rintro e w2 ⟨a2, rfl, hva2, hb2⟩; have HB2 := hid hb2; have HP2 := hid (Part.keepS (bstep (below_box _) hb2) HPT.out); obtain ⟨t0, t1, t2, t3, t4, r0, r1, r2, r3, r4, hfr⟩ := HP2.out.spare hlt (Nat.le_of_lt hlt); have f0 := hfr (i * 5); have f1 := hfr (i * 5 + 1); have f2 := hfr (i * 5 + 2); have f3 := hfr (i * 5 + 3); have f4 := hfr (i * 5 + 4); obtain ⟨cs2, rfl, hc2⟩ := hva2; obtain ⟨k3, n3, s3, A3, m3, c3, A4, m4, c4, rfl⟩ := hc2.form; have HC2 := hid hc2; clear hfr hc2 hb2)
        have HN := hid (Part.next (HP2.out) rfl hlt (VC.more HC2.out (fun b hb _ => (⟨by have := HB2.out.size; simp at hb; omega, by simp at hb; omega⟩ : w.heap.size ≤ b ∧ b ≠ w.heap.size))))
        go_roundw
        case rel => exact ⟨i + 1, by omega, by go_num, HN.out⟩
        case measure => simp [intOf]; omega
      · obtain ⟨cs, hd1, hd2⟩ := HPT.out.done rfl hlt
        have HD1 := hid hd1
        have HD2 := hid hd2
        clear hd1 hd2
        go_wp2_with fail
        go_ret
        exact ⟨_, cs, rfl, HD1.out, HD2.out, hb⟩

/-- All but blocks a and a + 1 reads as before. -/
def Far2 (a : Nat) (w w' : World) : Prop := ∀ (q : Addr) (v : Value), q.block ≠ a ∧ q.block ≠ a + 1 → w.cell? q = some v → w'.cell? q = some v
theorem Far2.refl {a : Nat} {w : World} : Far2 a w w := fun _ _ _ h => h
theorem Far2.set {a : Nat} {w w' : World} (h : Far2 a w w') {p : Addr} (hp : p.block = a ∨ p.block = a + 1) (u : Value) : Far2 a w (w'.setCell p u) := fun q v hq hc =>
  (World.cell?_setCell_other w' p q u (fun e => by subst e; omega)).trans (h q v hq hc)
theorem freeOf {w : World} {g : Nat} {cs : Array Value} {t : TypeId} (h : w.heap[g]? = some (.cells cs t (0, 0))) (i : Nat) : w.frozen? ⟨g, i, none⟩ = false := frozen_of_row w g i cs t h
section
variable {w wr : World} {cs ds : Array Value}
theorem Bx2.set1 (h : Bx2 w cs ds wr) (i : Nat) (u : Value) : Bx2 w (cs.setIfInBounds i u) ds (wr.setCell ⟨w.heap.size, i, none⟩ u) := by
  have h1 : wr.heap[w.heap.size]? = some (.cells cs 26 (0, 0)) := h.one.block
  have hs := heap_setCell_same wr w.heap.size i cs 26 u h1
  refine ⟨h.os, h.tape, h.output, ?_, fun k hk => ?_⟩
  · have := h.size; simp [World.setCell]; omega
  · by_cases hkw : k = w.heap.size
    · subst hkw
      rw [hs]
      have : ((w.alloc (.cells (cs.setIfInBounds i u) 26)).alloc (.cells ds 26)).heap[w.heap.size]? = (w.alloc (.cells (cs.setIfInBounds i u) 26)).heap[w.heap.size]? := Below.heap_alloc _ _ _ (by simp)
      rw [this, heap_alloc_new]
    · rw [Below.heap_setCell wr ⟨w.heap.size, i, none⟩ u k hkw, h.block k hk]
      by_cases hk1 : k = w.heap.size + 1
      · subst hk1
        have e : ∀ xs : Array Value, ((w.alloc (.cells xs 26)).alloc (.cells ds 26)).heap[w.heap.size + 1]? = some (.cells ds 26 (0, 0)) := fun xs => by
          have := heap_alloc_new (w.alloc (.cells xs 26)) (.cells ds 26)
          simpa using this
        rw [e, e]
      · have e : ∀ xs : Array Value, ((w.alloc (.cells xs 26)).alloc (.cells ds 26)).heap[k]? = w.heap[k]? := fun xs => by
          rw [Below.heap_alloc _ _ _ (by simp; omega), Below.heap_alloc _ _ _ (by omega)]
        rw [e, e]
theorem Bx2.free1 (h : Bx2 w cs ds wr) (i : Nat) : wr.frozen? ⟨w.heap.size, i, none⟩ = false := h.one.free i
theorem Bx2.free2 (h : Bx2 w cs ds wr) (i : Nat) : wr.frozen? ⟨w.heap.size + 1, i, none⟩ = false := freeOf h.block2 i
end

set_option maxRecDepth 100000 in
set_option maxHeartbeats 1000000 in
theorem copy_any (m : Nat) : ∀ (v : V) (a : Value) (w : World) (S : Nat → Prop), V.size v ≤ m → V.size v ≤ 1099511627776 → VA w S a v → Calls Try.prog 28 #[a] w (NewVal w v) := by
  induction m with
  | zero => intro v a w S h; have := V.size_pos v; omega
  | succ m ih =>
    intro v a w S hm hsz hv
    match v with
    | .mk k n s l ks =>
    obtain ⟨A, c, A', c', ics, rfl, ho, hl, hr, hvs, hk⟩ := hv.open_
    obtain ⟨hm, hz⟩ := items_size hm hsz
    have hll := V.length_sizeL l
    have HO := hid ho
    have C62 : Hid (∀ W, Below w.heap.size w W → Calls Try.prog 62 #[.slice A l.length c] W (NewVals W l)) := fun W hW =>
      copyAll_of l (fun u hu a W S hva => ih u a W S (hm u hu).1 (hm u hu).2 hva) _ ics W S (by omega) (hr.below hW (by omega)) (hvs.below hW)
    have C63 : Hid (∀ W, Below w.heap.size w W → Calls Try.prog 63 #[.slice A' ks.length c'] W (NewRow W 9 1 ks.length (ks.map Value.string))) := fun W hW =>
      cloneS ks _ W S ho.2.2.2.2.2.2 (hk.below hW (by omega))
    clear hv ho hr hvs hk hm hsz ih
    go_enter Try.func28, Try.ntmps28
    go_wp2_with fail
    refine (C62.out _ (bstep (below_box _) (below_box _))).mono ?_
    rintro e w1 ⟨v1, cs1, rfl, hr1, hv1, hb1⟩
    have HB1 := hid (Bx2.refl.step hb1)
    have HR1 := hid hr1
    have HV1 := hid hv1
    obtain ⟨A1, c1, rfl, _, _⟩ := hr1.form
    clear hr1 hv1 hb1
    obtain ⟨⟨p0, p1, p2, p3, p4⟩, _⟩ := HB1.out.cells
    have f3 := HB1.out.free1 3
    have HB2 := hid (HB1.out.set1 3 (.slice A1 l.length c1))
    go_wp2_with fail
    refine (C63.out _ HB2.out.below).mono ?_
    rintro e w2 ⟨v2, rfl, ho2, hb2⟩
    have HB3 := hid (HB2.out.step hb2)
    have HR2' := hid (RdN.of_own ho2 (S := fun b => w.heap.size ≤ b ∧ b ≠ w.heap.size ∧ b ≠ w.heap.size + 1) (fun k hk => by have h1 := (World.ownsRow.lt ho2 k hk).1; have h2 := HB2.out.size; omega))
    obtain ⟨A2, c2, rfl, _, _⟩ := HR2'.out.form
    have hS : ∀ b, ((w.alloc (.cells #[.int .i64 k, .int .i64 n, .string s, .slice A l.length c, .slice A' ks.length c'] 26)).alloc (.cells #[.int .i64 0, .int .i64 0, .string ⟨#[]⟩, .slice none 0 0, .slice none 0 0] 26)).heap.size ≤ b → w.heap.size ≤ b ∧ b ≠ w.heap.size ∧ b ≠ w.heap.size + 1 := fun b hb => by simp at hb; omega
    have HR3 := hid ((RdN_setCell HR1.out ⟨w.heap.size, 3, none⟩ (.slice A1 l.length c1) (fun b hb => (hS b hb).2.1) (by omega)).below hb2 (by omega))
    have HV3 := hid ((VsC_setCell HV1.out ⟨w.heap.size, 3, none⟩ (.slice A1 l.length c1) (fun b hb => (hS b hb).2.1)).below hb2)
    have HS := hid hS
    clear ho2 hb2 hS p0 p1 p2 p3 p4 f3 HR1 HV1
    obtain ⟨⟨p0, p1, p2, p3, p4⟩, ⟨r0, r1, r2, r3, r4⟩⟩ := HB3.out.cells
    have f4 := HB3.out.free1 4
    have g0 := HB3.out.free2 0
    have g1 := HB3.out.free2 1
    have g2 := HB3.out.free2 2
    have g3 := HB3.out.free2 3
    have g4 := HB3.out.free2 4
    have HF : Hid (Far2 w.heap.size w2 ((((((w2.setCell ⟨w.heap.size, 4, none⟩ (.slice A2 ks.length c2)).setCell ⟨w.heap.size + 1, 0, none⟩ (.int .i64 k)).setCell ⟨w.heap.size + 1, 1, none⟩ (.int .i64 n)).setCell ⟨w.heap.size + 1, 2, none⟩ (.string s)).setCell ⟨w.heap.size + 1, 3, none⟩ (.slice A1 l.length c1)).setCell ⟨w.heap.size + 1, 4, none⟩ (.slice A2 ks.length c2))) :=
      (((((Far2.refl.set (p := ⟨w.heap.size, 4, none⟩) (.inl rfl) _).set (p := ⟨w.heap.size + 1, 0, none⟩) (.inr rfl) _).set (p := ⟨w.heap.size + 1, 1, none⟩) (.inr rfl) _).set (p := ⟨w.heap.size + 1, 2, none⟩) (.inr rfl) _).set (p := ⟨w.heap.size + 1, 3, none⟩) (.inr rfl) _).set (p := ⟨w.heap.size + 1, 4, none⟩) (.inr rfl) _
    have HB : Hid (Below w.heap.size w ((((((w2.setCell ⟨w.heap.size, 4, none⟩ (.slice A2 ks.length c2)).setCell ⟨w.heap.size + 1, 0, none⟩ (.int .i64 k)).setCell ⟨w.heap.size + 1, 1, none⟩ (.int .i64 n)).setCell ⟨w.heap.size + 1, 2, none⟩ (.string s)).setCell ⟨w.heap.size + 1, 3, none⟩ (.slice A1 l.length c1)).setCell ⟨w.heap.size + 1, 4, none⟩ (.slice A2 ks.length c2))) :=
      (((((HB3.out.below.setCell (p := ⟨w.heap.size, 4, none⟩) (Nat.le_refl _) _).setCell (p := ⟨w.heap.size + 1, 0, none⟩) (Nat.le_succ _) _).setCell (p := ⟨w.heap.size + 1, 1, none⟩) (Nat.le_succ _) _).setCell (p := ⟨w.heap.size + 1, 2, none⟩) (Nat.le_succ _) _).setCell (p := ⟨w.heap.size + 1, 3, none⟩) (Nat.le_succ _) _).setCell (p := ⟨w.heap.size + 1, 4, none⟩) (Nat.le_succ _) _
    go_wp2_with fail
    refine bodyPost_ret (v := .agg #[.int .i64 k, .int .i64 n, .string s, .slice A1 l.length c1, .slice A2 ks.length c2]) (by simp [results, Try.results28, go_sem, r0, r1, r2, r3, r4]) rfl ⟨_, rfl, ?_, HB.out⟩
    exact VA.mk_ HO.out (HR3.out.keep (fun b hb _ => (HS.out b hb).1) (fun q v hq hc => HF.out q v (HS.out _ hq).2 hc) (by omega)) (HV3.out.keep (fun b hb _ => (HS.out b hb).1) (fun q v hq hc => HF.out q v (HS.out _ hq).2 hc)) (HR2'.out.keep (fun b hb _ => hb.1) (fun q v hq hc => HF.out q v hq.2 hc) (by omega))
end Go.Proofs.Ytpoofeiajmkfdaa
