/-
  copyAll and Copy of the program once more: what they make may be written.
-/
import Derived.Test.YtpoofeiajmkfdaaVRcopy2
namespace Go.Proofs.Ytpoofeiajmkfdaa
open Go.RowKit

/-- Nothing of block b is frozen. -/
def Unf (w : World) (b : Nat) : Prop := ∀ j, w.frozen? ⟨b, j, none⟩ = false
theorem Unf.below {w w' : World} {b : Nat} (h : Unf w b) (hb : Below w.heap.size w w') (hlt : b < w.heap.size) : Unf w' b := fun j =>
  (hb.frozen (p := ⟨b, j, none⟩) hlt).trans (h j)
theorem Unf.setCell {w : World} {b : Nat} (h : Unf w b) (p : Addr) (u : Value) : Unf (w.setCell p u) b := fun j => by rw [World.frozen?_setCell]; exact h j
theorem Unf.put5 {w : World} {b g o : Nat} {c0 c1 c2 c3 c4 : Value} (h : Unf w b) : Unf (put5 w g o c0 c1 c2 c3 c4) b := ((((h.setCell _ _).setCell _ _).setCell _ _).setCell _ _).setCell _ _
theorem own_unf {w : World} {base size n k : Nat} {e : TypeId} {v : Value} {xs : List Value} (h : w.ownsRow base e size v n xs) (hk : v.ownBlock = some k) : Unf w k := by
  rcases h.2 with ⟨rfl, _⟩ | ⟨g, cap, cur, rfl, _⟩
  · simp [Value.ownBlock] at hk
  · simp [Value.ownBlock] at hk
    subst hk
    exact fun j => World.ownsRow.frozenAt h j

/-- A row of n values at block g, the first i of them copied. -/
def PartU (w0 wr : World) (g n : Nat) (l : List V) (i : Nat) : Prop :=
  ∃ cs tail, wr.ownsRow w0.heap.size 26 5 (.slice (some ⟨g, 0, none⟩) n n) n (cs ++ tail) ∧ VsC wr (fun b => w0.heap.size ≤ b ∧ b ≠ g ∧ Unf wr b) (l.take i) cs ∧ w0.heap.size ≤ g ∧ Below w0.heap.size w0 wr

section
variable {w0 wr w1 : World} {g n i : Nat} {l : List V}

theorem PartU.start (w : World) (n : Nat) (l : List V) (hn : n ≤ 1099511627776) (Z : Array Value) (hZ : Z.size = n * 5) : PartU w (w.alloc (.cells Z 26)) w.heap.size n l 0 := by
  refine ⟨[], Z.toList, ?_, by simp [VsC_nil], Nat.le_refl _, below_box _⟩
  exact World.ownsRow_lit w _ n (Nat.le_refl _) (by unfold maxLen; omega) hZ

theorem PartU.keepS (hb : Below wr.heap.size wr w1) (h : PartU w0 wr g n l i) : PartU w0 w1 g n l i := by
  obtain ⟨cs, tail, h1, h2, h3, h4⟩ := h
  refine ⟨cs, tail, ?_, h2.keep (fun b hb' hlt => ⟨hb'.1, hb'.2.1, hb'.2.2.below hb hlt⟩) (keepB hb), h3, h4.trans (hb.mono h4.size)⟩
  rcases h1.2 with ⟨h', _⟩ | ⟨g', cap, cur, hv, hbg, hg, hrest⟩
  · simp at h'
  · exact ⟨h1.1, .inr ⟨g', cap, cur, hv, hbg, (hb.block g' (Array.getElem?_eq_some_iff.1 hg).1).trans hg, hrest⟩⟩

theorem PartU.lt (h : PartU w0 wr g n l i) : g < wr.heap.size := by
  obtain ⟨cs, tail, h1, _⟩ := h
  exact (World.ownsRow.lt h1 g rfl).2

/-- The cells that the next copy takes. -/
theorem PartU.spare (h : PartU w0 wr g n l i) (hi : i < n) (_hl : i ≤ l.length) : ∃ t0 t1 t2 t3 t4, wr.cell? ⟨g, i * 5, none⟩ = some t0 ∧ wr.cell? ⟨g, i * 5 + 1, none⟩ = some t1 ∧ wr.cell? ⟨g, i * 5 + 2, none⟩ = some t2 ∧ wr.cell? ⟨g, i * 5 + 3, none⟩ = some t3 ∧ wr.cell? ⟨g, i * 5 + 4, none⟩ = some t4 ∧ ∀ j, wr.frozen? ⟨g, j, none⟩ = false := by
  obtain ⟨cs, tail, h1, h2, _⟩ := h
  have hlen := h1.1
  have hc : ∀ j, j < 5 → ∃ t, wr.cell? ⟨g, i * 5 + j, none⟩ = some t := fun j hj => by
    rw [World.ownsRow.cellAt h1 (i * 5 + j) (by omega)]
    exact ⟨_, List.getElem?_eq_getElem (by omega)⟩
  obtain ⟨t0, q0⟩ := hc 0 (by omega)
  obtain ⟨t1, q1⟩ := hc 1 (by omega)
  obtain ⟨t2, q2⟩ := hc 2 (by omega)
  obtain ⟨t3, q3⟩ := hc 3 (by omega)
  obtain ⟨t4, q4⟩ := hc 4 (by omega)
  exact ⟨t0, t1, t2, t3, t4, q0, q1, q2, q3, q4, fun j => World.ownsRow.frozenAt h1 j⟩

theorem PartU.next {c0 c1 c2 c3 c4 : Value} (h : PartU w0 wr g n l i) (hn : n = l.length) (hi : i < n) (hv : VC wr (fun b => w0.heap.size ≤ b ∧ b ≠ g ∧ Unf wr b) l[i] [c0, c1, c2, c3, c4]) : PartU w0 (put5 wr g (i * 5) c0 c1 c2 c3 c4) g n l (i + 1) := by
  obtain ⟨cs, tail, h1, h2, h3, h4⟩ := h
  have hl := VsC.len h2
  rw [List.length_take, Nat.min_eq_left (by omega)] at hl
  have hlen := h1.1
  simp only [List.length_append] at hlen
  obtain ⟨t0, t1, t2, t3, t4, tail', rfl⟩ : ∃ t0 t1 t2 t3 t4 tail', tail = t0 :: t1 :: t2 :: t3 :: t4 :: tail' := by
    match tail, hlen with
    | t0 :: t1 :: t2 :: t3 :: t4 :: tail', _ => exact ⟨t0, t1, t2, t3, t4, tail', rfl⟩
    | [], h => simp at h; omega
    | [_], h => simp at h; omega
    | [_, _], h => simp at h; omega
    | [_, _, _], h => simp at h; omega
    | [_, _, _, _], h => simp at h; omega
  have s0 := (World.ownsRow.stored h1 (i * 5) c0)
  have s1 := (World.ownsRow.stored s0.1 (i * 5 + 1) c1)
  have s2 := (World.ownsRow.stored s1.1 (i * 5 + 2) c2)
  have s3 := (World.ownsRow.stored s2.1 (i * 5 + 3) c3)
  have s4 := (World.ownsRow.stored s3.1 (i * 5 + 4) c4)
  have hrow := s4.1
  rw [set5 cs tail' t0 t1 t2 t3 t4 c0 c1 c2 c3 c4 i hl] at hrow
  refine ⟨cs ++ [c0, c1, c2, c3, c4], tail', hrow, ?_, h3, ?_⟩
  · rw [take_succ_l l i (by omega)]
    refine VsC.app ?_ (VsC.one ?_)
    · refine VsC.more (S := fun b => w0.heap.size ≤ b ∧ b ≠ g ∧ Unf wr b) ?_ (fun b hb _ => ⟨hb.1, hb.2.1, hb.2.2.put5⟩)
      exact VsC_setCell (VsC_setCell (VsC_setCell (VsC_setCell (VsC_setCell h2 _ _ (fun _ h => h.2.1)) _ _ (fun _ h => h.2.1)) _ _ (fun _ h => h.2.1)) _ _ (fun _ h => h.2.1)) _ _ (fun _ h => h.2.1)
    · refine VC.more (S := fun b => w0.heap.size ≤ b ∧ b ≠ g ∧ Unf wr b) ?_ (fun b hb _ => ⟨hb.1, hb.2.1, hb.2.2.put5⟩)
      exact VC_setCell (VC_setCell (VC_setCell (VC_setCell (VC_setCell hv _ _ (fun _ h => h.2.1)) _ _ (fun _ h => h.2.1)) _ _ (fun _ h => h.2.1)) _ _ (fun _ h => h.2.1)) _ _ (fun _ h => h.2.1)
  · exact ((((h4.setCell (p := ⟨g, i * 5, none⟩) h3 _).setCell (p := ⟨g, i * 5 + 1, none⟩) h3 _).setCell (p := ⟨g, i * 5 + 2, none⟩) h3 _).setCell (p := ⟨g, i * 5 + 3, none⟩) h3 _).setCell (p := ⟨g, i * 5 + 4, none⟩) h3 _

theorem PartU.done (h : PartU w0 wr g n l i) (hn : n = l.length) (hi : ¬ i < n) : ∃ cs, RdN wr (fun b => w0.heap.size ≤ b ∧ Unf wr b) 5 (.slice (some ⟨g, 0, none⟩) n n) n cs ∧ VsC wr (fun b => w0.heap.size ≤ b ∧ Unf wr b) l cs := by
  obtain ⟨cs, tail, h1, h2, h3, h4⟩ := h
  have ht : l.take i = l := List.take_of_length_le (by omega)
  rw [ht] at h2
  have hl := VsC.len h2
  have hlen := h1.1
  simp only [List.length_append] at hlen
  have : tail = [] := List.eq_nil_of_length_eq_zero (by omega)
  subst this
  refine ⟨cs, RdN.of_own (base := w0.heap.size) (e := 26) (by simpa using h1) (fun k hk => ⟨(World.ownsRow.lt h1 k hk).1, by simp [Value.ownBlock] at hk; subst hk; exact fun j => World.ownsRow.frozenAt h1 j⟩), h2.more fun b hb _ => ⟨hb.1, hb.2.2⟩⟩
end

/-- What copyAll leaves: a slice of new memory with copies of the values. -/
def NewValsU (w : World) (l : List V) (en : Ending) (w' : World) : Prop := ∃ v cs, en = .returned v ∧ RdN w' (fun b => w.heap.size ≤ b ∧ Unf w' b) 5 v l.length cs ∧ VsC w' (fun b => w.heap.size ≤ b ∧ Unf w' b) l cs ∧ Below w.heap.size w w'
/-- What Copy leaves. -/
def NewValU (w : World) (v : V) (en : Ending) (w' : World) : Prop := ∃ a, en = .returned a ∧ VA w' (fun b => w.heap.size ≤ b ∧ Unf w' b) a v ∧ Below w.heap.size w w'

def CopyOfU (f : FuncId) (l : List V) : Prop := ∀ u ∈ l, ∀ (a : Value) (W : World) (S : Nat → Prop), VA W S a u → Calls Try.prog f #[a] W (NewValU W u)

set_option maxRecDepth 100000 in
set_option maxHeartbeats 1000000 in
theorem copyAllU_of (l : List V) (H : CopyOfU 28 l) (iv : Value) (ics : List Value) (w : World) (S : Nat → Prop) (hl : l.length ≤ 1099511627776) (hr : RdN w S 5 iv l.length ics) (hvs : VsC w S l ics) :
    Calls Try.prog 62 #[iv] w (NewValsU w l) := by
  have HH := hid H
  obtain ⟨A, c, rfl, _, _⟩ := hr.form
  have HR := hid hr
  have HV := hid hvs
  clear hr hvs H
  by_cases h0 : l = []
  · subst h0
    go_enter Try.func62, Try.ntmps62
    go_wp2_with fail
    go_ret
    exact ⟨_, [], rfl, RdN.none_, VsC.nil_, Below.refl _ _⟩
  · have hpos : 0 < l.length := List.length_pos_iff.2 h0
    have hne : ((l.length : Int) == 0) = false := by simp; omega
    obtain ⟨Z, hZ, hmk⟩ := make26 l.length hl
    have HP := hid (PartU.start w l.length l hl Z hZ)
    clear hZ
    clear h0
    go_enter Try.func62, Try.ntmps62
    go_wp2_with fail
    clear hmk
    go_loopw [14] (fun v14 wr => ∃ i : Nat, i ≤ l.length ∧ v14 = .int .i64 (i : Int) ∧ PartU w wr w.heap.size l.length l i) (fun v14 _ => l.length - (intOf v14).toNat)
    case atStart => exact ⟨0, Nat.zero_le _, rfl, HP.out⟩
    case round =>
      clear HP
      obtain ⟨i, hi, rfl, hpt⟩ := hrel
      have hb : Below w.heap.size w wr := by obtain ⟨_, _, _, _, _, h⟩ := hpt; exact h
      have hglt := hpt.lt
      have HPT := hid hpt
      clear hpt
      by_cases hlt : i < l.length
      · obtain ⟨b, o, cc, k', n', s', A1, m1, c1, A2, m2, c2, he, q0, q1, q2, q3, q4, hva⟩ := items_at (HR.out.below hb (by omega)) (HV.out.below hb) i hlt
        injection he with he1 he2 he3
        subst he1
        clear he2 he3
        have HVA := hid hva
        have HU := hid (HH.out l[i] (List.getElem_mem hlt))
        clear hva
        go_wp2_with (go_at_call 28; refine (HU.out _ _ _ (HVA.out.below (below_box _))).mono ?_; rintro e w2 ⟨a2, rfl, hva2, hb2⟩; have HB2 := hid hb2; have HP2 := hid (PartU.keepS (bstep (below_box _) hb2) HPT.out); obtain ⟨t0, t1, t2, t3, t4, r0, r1, r2, r3, r4, hfr⟩ := HP2.out.spare hlt (Nat.le_of_lt hlt); have f0 := hfr (i * 5); have f1 := hfr (i * 5 + 1); have f2 := hfr (i * 5 + 2); have f3 := hfr (i * 5 + 3); have f4 := hfr (i * 5 + 4); obtain ⟨cs2, rfl, hc2⟩ := hva2; obtain ⟨k3, n3, s3, A3, m3, c3, A4, m4, c4, rfl⟩ := hc2.form; have HC2 := hid hc2; clear hfr hc2 hb2)
        have HN := hid (PartU.next (HP2.out) rfl hlt (VC.more HC2.out (fun b hb _ => (⟨by have := hb.1; simp at this; omega, by have := hb.1; simp at this; omega, hb.2⟩ : w.heap.size ≤ b ∧ b ≠ w.heap.size ∧ Unf w2 b))))
        go_roundw
        case rel => exact ⟨i + 1, by omega, by go_num, HN.out⟩
        case measure => simp [intOf]; omega
      · obtain ⟨cs, hd1, hd2⟩ := HPT.out.done rfl hlt
        have HD1 := hid hd1
        have HD2 := hid hd2
        clear hd1 hd2
        go_wp2_with fail
        go_ret
        exact ⟨_, cs, rfl, HD1.out, HD2.out, hb⟩

set_option maxRecDepth 100000 in
set_option maxHeartbeats 1000000 in
theorem copyU_any (m : Nat) : ∀ (v : V) (a : Value) (w : World) (S : Nat → Prop), V.size v ≤ m → V.size v ≤ 1099511627776 → VA w S a v → Calls Try.prog 28 #[a] w (NewValU w v) := by
  induction m with
  | zero => intro v a w S h; have := V.size_pos v; omega
  | succ m ih =>
    intro v a w S hm hsz hv
    match v with
    | .mk k n s l ks =>
    obtain ⟨A, c, A', c', ics, rfl, ho, hl, hr, hvs, hk⟩ := hv.open_
    obtain ⟨hm, hz⟩ := items_size hm hsz
    have hll := V.length_sizeL l
    have HO := hid ho
    have C62 : Hid (∀ W, Below w.heap.size w W → Calls Try.prog 62 #[.slice A l.length c] W (NewValsU W l)) := fun W hW =>
      copyAllU_of l (fun u hu a W S hva => ih u a W S (hm u hu).1 (hm u hu).2 hva) _ ics W S (by omega) (hr.below hW (by omega)) (hvs.below hW)
    have C63 : Hid (∀ W, Below w.heap.size w W → Calls Try.prog 63 #[.slice A' ks.length c'] W (NewRow W 9 1 ks.length (ks.map Value.string))) := fun W hW =>
      cloneS ks _ W S ho.2.2.2.2.2.2 (hk.below hW (by omega))
    clear hv ho hr hvs hk hm hsz ih
    go_enter Try.func28, Try.ntmps28
    go_wp2_with fail
    refine (C62.out _ (bstep (below_box _) (below_box _))).mono ?_
    rintro e w1 ⟨v1, cs1, rfl, hr1, hv1, hb1⟩
    have HB1 := hid (Bx2.refl.step hb1)
    have HR1 := hid (hr1.more (S' := fun b => (w.heap.size ≤ b ∧ b ≠ w.heap.size ∧ b ≠ w.heap.size + 1) ∧ Unf w1 b) (fun b hb _ => ⟨by have := hb.1; simp at this; omega, hb.2⟩) (by omega))
    have HV1 := hid (hv1.more (S' := fun b => (w.heap.size ≤ b ∧ b ≠ w.heap.size ∧ b ≠ w.heap.size + 1) ∧ Unf w1 b) (fun b hb _ => ⟨by have := hb.1; simp at this; omega, hb.2⟩))
    obtain ⟨A1, c1, rfl, _, _⟩ := hr1.form
    clear hr1 hv1 hb1
    obtain ⟨⟨p0, p1, p2, p3, p4⟩, _⟩ := HB1.out.cells
    have f3 := HB1.out.free1 3
    have HB2 := hid (HB1.out.set1 3 (.slice A1 l.length c1))
    go_wp2_with fail
    refine (C63.out _ HB2.out.below).mono ?_
    rintro e w2 ⟨v2, rfl, ho2, hb2⟩
    have HB3 := hid (HB2.out.step hb2)
    have HR2' := hid (RdN.of_own ho2 (S := fun b => (w.heap.size ≤ b ∧ b ≠ w.heap.size ∧ b ≠ w.heap.size + 1) ∧ Unf w2 b) (fun k hk => ⟨by have h1 := (World.ownsRow.lt ho2 k hk).1; have h2 := HB2.out.size; omega, own_unf ho2 hk⟩))
    obtain ⟨A2, c2, rfl, _, _⟩ := HR2'.out.form
    have HR3 := hid ((RdN_setCell HR1.out ⟨w.heap.size, 3, none⟩ (.slice A1 l.length c1) (fun b hb => hb.1.2.1) (by omega)).keep (w' := w2) (S' := fun b => (w.heap.size ≤ b ∧ b ≠ w.heap.size ∧ b ≠ w.heap.size + 1) ∧ Unf w2 b) (fun b hb hlt => ⟨hb.1, Unf.below (hb.2.setCell _ _) hb2 hlt⟩) (keepB (S := fun b => (w.heap.size ≤ b ∧ b ≠ w.heap.size ∧ b ≠ w.heap.size + 1) ∧ Unf w1 b) hb2) (by omega))
    have HV3 := hid ((VsC_setCell HV1.out ⟨w.heap.size, 3, none⟩ (.slice A1 l.length c1) (fun b hb => hb.1.2.1)).keep (w' := w2) (S' := fun b => (w.heap.size ≤ b ∧ b ≠ w.heap.size ∧ b ≠ w.heap.size + 1) ∧ Unf w2 b) (fun b hb hlt => ⟨hb.1, Unf.below (hb.2.setCell _ _) hb2 hlt⟩) (keepB (S := fun b => (w.heap.size ≤ b ∧ b ≠ w.heap.size ∧ b ≠ w.heap.size + 1) ∧ Unf w1 b) hb2))
    clear ho2 hb2 p0 p1 p2 p3 p4 f3 HR1 HV1
    obtain ⟨⟨p0, p1, p2, p3, p4⟩, ⟨r0, r1, r2, r3, r4⟩⟩ := HB3.out.cells
    have f4 := HB3.out.free1 4
    have g0 := HB3.out.free2 0
    have g1 := HB3.out.free2 1
    have g2 := HB3.out.free2 2
    have g3 := HB3.out.free2 3
    have g4 := HB3.out.free2 4
    have HF : Hid (Far2 w.heap.size w2 ((((((w2.setCell ⟨w.heap.size, 4, none⟩ (.slice A2 ks.length c2)).setCell ⟨w.heap.size + 1, 0, none⟩ (.int .i64 k)).setCell ⟨w.heap.size + 1, 1, none⟩ (.int .i64 n)).setCell ⟨w.heap.size + 1, 2, none⟩ (.string s)).setCell ⟨w.heap.size + 1, 3, none⟩ (.slice A1 l.length c1)).setCell ⟨w.heap.size + 1, 4, none⟩ (.slice A2 ks.length c2))) :=
      (((((Far2.refl.set (p := ⟨w.heap.size, 4, none⟩) (.inl rfl) _).set (p := ⟨w.heap.size + 1, 0, none⟩) (.inr rfl) _).set (p := ⟨w.heap.size + 1, 1, none⟩) (.inr rfl) _).set (p := ⟨w.heap.size + 1, 2, none⟩) (.inr rfl) _).set (p := ⟨w.heap.size + 1, 3, none⟩) (.inr rfl) _).set (p := ⟨w.heap.size + 1, 4, none⟩) (.inr rfl) _
    have HB : Hid (Below w.heap.size w ((((((w2.setCell ⟨w.heap.size, 4, none⟩ (.slice A2 ks.length c2)).setCell ⟨w.heap.size + 1, 0, none⟩ (.int .i64 k)).setCell ⟨w.heap.size + 1, 1, none⟩ (.int .i64 n)).setCell ⟨w.heap.size + 1, 2, none⟩ (.string s)).setCell ⟨w.heap.size + 1, 3, none⟩ (.slice A1 l.length c1)).setCell ⟨w.heap.size + 1, 4, none⟩ (.slice A2 ks.length c2))) :=
      (((((HB3.out.below.setCell (p := ⟨w.heap.size, 4, none⟩) (Nat.le_refl _) _).setCell (p := ⟨w.heap.size + 1, 0, none⟩) (Nat.le_succ _) _).setCell (p := ⟨w.heap.size + 1, 1, none⟩) (Nat.le_succ _) _).setCell (p := ⟨w.heap.size + 1, 2, none⟩) (Nat.le_succ _) _).setCell (p := ⟨w.heap.size + 1, 3, none⟩) (Nat.le_succ _) _).setCell (p := ⟨w.heap.size + 1, 4, none⟩) (Nat.le_succ _) _
    go_wp2_with fail
    refine bodyPost_ret (v := .agg #[.int .i64 k, .int .i64 n, .string s, .slice A1 l.length c1, .slice A2 ks.length c2]) (by simp [results, Try.results28, go_sem, r0, r1, r2, r3, r4]) rfl ⟨_, rfl, ?_, HB.out⟩
    have hU : ∀ b, Unf w2 b → Unf ((((((w2.setCell ⟨w.heap.size, 4, none⟩ (.slice A2 ks.length c2)).setCell ⟨w.heap.size + 1, 0, none⟩ (.int .i64 k)).setCell ⟨w.heap.size + 1, 1, none⟩ (.int .i64 n)).setCell ⟨w.heap.size + 1, 2, none⟩ (.string s)).setCell ⟨w.heap.size + 1, 3, none⟩ (.slice A1 l.length c1)).setCell ⟨w.heap.size + 1, 4, none⟩ (.slice A2 ks.length c2)) b := fun b hb => (((((hb.setCell _ _).setCell _ _).setCell _ _).setCell _ _).setCell _ _).setCell _ _
    exact VA.mk_ HO.out (HR3.out.keep (fun b hb _ => ⟨hb.1.1, hU b hb.2⟩) (fun q v hq hc => HF.out q v hq.1.2 hc) (by omega)) (HV3.out.keep (fun b hb _ => ⟨hb.1.1, hU b hb.2⟩) (fun q v hq hc => HF.out q v hq.1.2 hc)) (HR2'.out.keep (fun b hb _ => ⟨hb.1.1, hU b hb.2⟩) (fun q v hq hc => HF.out q v hq.1.2 hc) (by omega))
end Go.Proofs.Ytpoofeiajmkfdaa
