/-
  fits, withinLimits, Right of the program: contracts.
-/
import Derived.Test.YtpoofeiajmkfdaaVFut
import Derived.Test.YtpoofeiajmkfdaaRd2
namespace Go.Proofs.Ytpoofeiajmkfdaa
open Go.RowKit

/-- The counter of nodes at block g. -/
def Nd (w : World) (g N : Nat) : Prop := w.heap[g]? = some (.cells #[.int .i64 (N : Int)] 3 (0, 0))
section
variable {w w' : World} {g N : Nat} {S : Nat → Prop}
theorem Nd.cell (h : Nd w g N) : w.cell? ⟨g, 0, none⟩ = some (.int .i64 (N : Int)) := cellAt h 0
theorem Nd.free (h : Nd w g N) : w.frozen? ⟨g, 0, none⟩ = false := freeAt h 0
theorem Nd.lt (h : Nd w g N) : g < w.heap.size := (Array.getElem?_eq_some_iff.1 h).1
theorem Nd.below (h : Nd w g N) (hb : Below w.heap.size w w') : Nd w' g N := (hb.block g h.lt).trans h
theorem Nd.set_ (h : Nd w g N) (M : Nat) : Nd (w.setCell ⟨g, 0, none⟩ (.int .i64 (M : Int))) g M := by
  have := heap_setCell_same w g 0 _ 3 (.int .i64 (M : Int)) h
  simpa [Nd] using this

theorem keepCh (hc : Ch g w w') (hS : ∀ b, S b → b ≠ g) : ∀ (p : Addr) u, S p.block → w.cell? p = some u → w'.cell? p = some u :=
  fun p u hp hq => World.grownBy.cell hc hq (fun e => hS _ hp (by injection e))
theorem VA.ch {a : Value} {v : V} (h : VA w S a v) (hc : Ch g w w') (hS : ∀ b, S b → b ≠ g) : VA w' S a v := by
  obtain ⟨cs, rfl, hcs⟩ := h
  exact ⟨cs, rfl, VC.keep (fun _ hs _ => hs) (keepCh hc hS) v cs hcs⟩
theorem RdN.ch {size n : Nat} {v : Value} {xs : List Value} (h : RdN w S size v n xs) (hc : Ch g w w') (hS : ∀ b, S b → b ≠ g) (hz : 0 < size) : RdN w' S size v n xs := h.keep (fun _ hs _ => hs) (keepCh hc hS) hz
theorem VsC.ch {l : List V} {cs : List Value} (h : VsC w S l cs) (hc : Ch g w w') (hS : ∀ b, S b → b ≠ g) : VsC w' S l cs := VsC.keep (fun _ hs _ => hs) (keepCh hc hS) h
end

def fitB (v : V) (d N : Nat) : Bool := V.short v && decide (V.depth v ≤ d) && decide (V.size v ≤ N)

theorem fitB_mk (k n : Int) (s : ByteArray) (l : List V) (ks : List ByteArray) (d N : Nat) (hd : 0 < d) (hN : 0 < N) (hs : decide (s.size ≤ 4096) = true) (hk : ks.all sk = true) :
    fitB (.mk k n s l ks) d N = (l.all V.short && decide (V.depthL l ≤ d - 1) && decide (V.sizeL l ≤ N - 1)) := by
  unfold fitB
  rw [short_eq, V.depth_mk, V.size_mk, hs, hk]
  simp only [Bool.true_and]
  congr 1
  · congr 1
    rw [decide_eq_decide]; omega
  · rw [decide_eq_decide]; omega
theorem fitB_no (k n : Int) (s : ByteArray) (l : List V) (ks : List ByteArray) (d N : Nat) (h : d = 0 ∨ N = 0 ∨ decide (s.size ≤ 4096) = false ∨ ks.all sk = false) : fitB (.mk k n s l ks) d N = false := by
  unfold fitB
  rw [short_eq, V.depth_mk, V.size_mk]
  rcases h with rfl | rfl | h | h
  · simp
  · simp
  · simp [h]
  · simp [h]

/-- So far, so good. -/
def FitTo (l : List V) (i d N M : Nat) : Prop := (∀ u ∈ l.take i, V.short u = true ∧ V.depth u ≤ d) ∧ V.sizeL (l.take i) + M = N
theorem FitTo.zero (l : List V) (d N : Nat) : FitTo l 0 d N N := ⟨fun u hu => absurd hu (by simp), by simp [V.sizeL_nil]⟩
theorem FitTo.next {l : List V} {i d N M : Nat} (h : FitTo l i d N M) (hi : i < l.length) (hf : fitB l[i] d M = true) : FitTo l (i + 1) d N (M - V.size l[i]) := by
  unfold fitB at hf
  simp only [Bool.and_eq_true, decide_eq_true_eq] at hf
  refine ⟨?_, ?_⟩
  · rw [take_succ_l l i hi]
    intro u hu
    rcases List.mem_append.1 hu with hu | hu
    · exact h.1 u hu
    · rw [List.mem_singleton.1 hu]; exact hf.1
  · rw [size_take hi]
    have := h.2
    omega
theorem FitTo.bad {l : List V} {i d N M : Nat} (h : FitTo l i d N M) (hi : i < l.length) (hf : fitB l[i] d M = false) : (l.all V.short && decide (V.depthL l ≤ d) && decide (V.sizeL l ≤ N)) = false := by
  cases hx : (l.all V.short && decide (V.depthL l ≤ d) && decide (V.sizeL l ≤ N)) with
  | false => rfl
  | true =>
    simp only [Bool.and_eq_true, decide_eq_true_eq, List.all_eq_true] at hx
    obtain ⟨⟨h1, h2⟩, h3⟩ := hx
    rw [V.depthL_le] at h2
    have hm := List.getElem_mem hi
    have h4 := V.sizeL_take l (i + 1)
    rw [size_take hi] at h4
    have h5 := h.2
    have : fitB l[i] d M = true := by
      unfold fitB
      simp only [Bool.and_eq_true, decide_eq_true_eq]
      exact ⟨⟨h1 _ hm, h2 _ hm⟩, by omega⟩
    rw [this] at hf
    cases hf
theorem FitTo.done {l : List V} {i d N M : Nat} (h : FitTo l i d N M) (hi : ¬ i < l.length) : (l.all V.short && decide (V.depthL l ≤ d) && decide (V.sizeL l ≤ N)) = true ∧ M = N - V.sizeL l := by
  obtain ⟨h1, h2⟩ := h
  rw [List.take_of_length_le (by omega)] at h1 h2
  simp only [Bool.and_eq_true, decide_eq_true_eq, List.all_eq_true]
  rw [V.depthL_le]
  exact ⟨⟨⟨fun u hu => (h1 u hu).1, fun u hu => (h1 u hu).2⟩, by omega⟩, by omega⟩

/-- What fits leaves. -/
def FitPost (b : Bool) (z g N : Nat) (w : World) (e : Ending) (w' : World) : Prop := ∃ M, e = .returned (.bool b) ∧ Nd w' g M ∧ M ≤ N ∧ (b = true → M = N - z) ∧ Ch g w w'

set_option maxRecDepth 100000 in
set_option maxHeartbeats 1000000 in
theorem fits_any (m : Nat) : ∀ (v : V) (a : Value) (d N g : Nat) (w : World) (S : Nat → Prop), V.size v ≤ m → VA w S a v → (∀ b, S b → b ≠ g) → Nd w g N → N ≤ 1000 → d ≤ 16 →
    Calls Try.prog 91 #[a, .int .i64 (d : Int), .pointer (some ⟨g, 0, none⟩)] w (FitPost (fitB v d N) (V.size v) g N w) := by
  induction m with
  | zero => intro v a d N g w S h; have := V.size_pos v; omega
  | succ m ih =>
    intro v a d N g w S hm hv hS hn hN hd
    match v with
    | .mk k n s l ks =>
    obtain ⟨A, c, A', c', ics, rfl, ho, hl, hr, hvs, hk⟩ := hv.open_
    have hks : ks.length * 16 ≤ 140737488351232 := ho.2.2.2.2.2.2
    have hss : s.size ≤ 9223372036854775807 := ho.2.2.2.2.1
    have HKS := hid ho.2.2.2.2.2.1
    have HR := hid hr
    have HV := hid hvs
    have HK := hid hk
    have HM : Hid (∀ u ∈ l, V.size u ≤ m) := fun u hu => by
      have := V.size_mem hu
      rw [V.size_mk] at hm
      omega
    have HS := hid hS
    have HN := hid hn
    have IH := hid ih
    have hc := hn.cell
    have hf := hn.free
    have hlt := hn.lt
    have hne1 : w.heap.size ≠ g := by omega
    have hne2 : g ≠ w.heap.size := by omega
    have HZ := hid (V.size_mk k n s l ks)
    have H0 := hid (fitB_no k n s l ks d N)
    have H1 := hid (fitB_mk k n s l ks d N)
    clear hv ho hr hvs hk hm hS hn ih
    generalize fitB (.mk k n s l ks) d N = dd at H0 H1
    generalize V.size (.mk k n s l ks) = z at HZ
    have BOX : Hid (∀ cs, Ch g w (w.alloc (.cells cs 26))) := fun cs => Ch.of_below (below_box _)
    by_cases hd0 : d = 0
    · subst hd0
      have HX := hid (H0.out (.inl rfl))
      go_enter Try.func91, Try.ntmps91
      go_wp2_with fail
      go_ret
      exact ⟨N, ret_bool HX.out.symm, HN.out.below (below_box _), Nat.le_refl _, fun h => (by rw [HX.out] at h; cases h), BOX.out _⟩
    · have hd0' : ((d : Int) == 0) = false := by simp; omega
      by_cases hN0 : N = 0
      · subst hN0
        have HX := hid (H0.out (.inr (.inl rfl)))
        have HD0 := hid hd0
        clear hd0
        go_enter Try.func91, Try.ntmps91
        go_wp2_with fail
        go_ret
        exact ⟨0, ret_bool HX.out.symm, HN.out.below (below_box _), Nat.le_refl _, fun h => (by rw [HX.out] at h; cases h), BOX.out _⟩
      · have hN0' : ((N : Int) == 0) = false := by simp; omega
        have HD0 := hid hd0
        have HN0 := hid hN0
        have hdpos : 1 ≤ d := by omega
        have hNpos : 1 ≤ N := by omega
        clear hd0 hN0
        by_cases hs : s.size ≤ 4096
        · have HSS : Hid (decide (s.size ≤ 4096) = true) := by show _ = _; simp [hs]
          cases hx : ks.all sk
          · have HX := hid (H0.out (.inr (.inr (.inr hx))))
            have HY : Hid ((!ks.all sk) = true) := by show _ = _; rw [hx]; rfl
            clear hx
            go_enter Try.func91, Try.ntmps91
            go_wp2_with (go_at_call 120; refine (callb HY.out (containsLong ks HKS.out _ _ S (by omega) (HK.out.below (below_box _) (by omega)))).mono ?_; rintro e w1 ⟨rfl, hb1⟩)
            go_ret
            exact ⟨N, ret_bool HX.out.symm, HN.out.below (bstep (below_box _) hb1), Nat.le_refl _, fun h => (by rw [HX.out] at h; cases h), Ch.of_below (bstep (below_box _) hb1)⟩
          · obtain ⟨d', rfl⟩ : ∃ d', d = d' + 1 := ⟨d - 1, by omega⟩
            obtain ⟨N', rfl⟩ : ∃ N', N = N' + 1 := ⟨N - 1, by omega⟩
            clear hd0' hN0'
            have hd0' : ((d' : Int) + 1 == 0) = false := by simp; omega
            have hN0' : ((N' : Int) + 1 == 0) = false := by simp; omega
            have hc : w.cell? ⟨g, 0, none⟩ = some (.int .i64 ((N' : Int) + 1)) := by have := HN.out.cell; simpa using this
            have HX := hid (H1.out hdpos hNpos HSS.out hx)
            have HY : Hid ((!ks.all sk) = false) := by show _ = _; rw [hx]; rfl
            clear hx
            go_enter Try.func91, Try.ntmps91
            go_wp2_with (go_at_call 120; refine (callb HY.out (containsLong ks HKS.out _ _ S (by omega) (HK.out.below (below_box _) (by omega)))).mono ?_; rintro e w1 ⟨rfl, hb1⟩; have HB1 := hid (Bx.refl.step hb1); clear hb1; have HN1 := hid (HN.out.below HB1.out.below); have hc1 : w1.cell? ⟨g, 0, none⟩ = some (.int .i64 ((N' : Int) + 1)) := (by have := HN1.out.cell; simpa using this); have hf1 := HN1.out.free; obtain ⟨p0, p1, p2, p3, p4⟩ := HB1.out.cells)
            have HW : Hid (Nd (w1.setCell ⟨g, 0, none⟩ (.int .i64 (N' : Int))) g N' ∧ Ch g w (w1.setCell ⟨g, 0, none⟩ (.int .i64 (N' : Int)))) := ⟨HN1.out.set_ _, (Ch.of_below HB1.out.below).trans (Ch.set _ _ _ _)⟩
            clear p0 p1 p2 p3 p4 hc hc1 hf hf1 hd0' hN0'
            go_loopw [36] (fun v36 wr => ∃ i M : Nat, i ≤ l.length ∧ v36 = .int .i64 (i : Int) ∧ Nd wr g M ∧ Hid (FitTo l i d' N' M) ∧ Ch g w wr) (fun v36 _ => l.length - (intOf v36).toNat)
            case atStart => exact ⟨0, N', Nat.zero_le _, rfl, by have := HW.out.1; simpa using this, FitTo.zero l d' N', by have := HW.out.2; simpa using this⟩
            case round =>
              obtain ⟨i, M, hi, rfl, hnd, hfit, hch⟩ := hrel
              have hMN : M ≤ N' := by have := hfit.out.2; omega
              have HND := hid hnd
              have HCH := hid hch
              clear hnd hch
              by_cases hlti : i < l.length
              · obtain ⟨b, o, cc, k', n', s', A1, m1, c1, A2, m2, c2, he, q0, q1, q2, q3, q4, hva⟩ := items_at (HR.out.ch HCH.out HS.out (by omega)) (HV.out.ch HCH.out HS.out) i hlti
                injection he with he1 he2 he3
                subst he1
                clear he2 he3
                have HVA := hid hva
                have HM1 := hid (HM.out l[i] (List.getElem_mem hlti))
                clear hva
                have C : Hid (Calls Try.prog 91 #[.agg #[.int .i64 k', .int .i64 n', .string s', .slice A1 m1 c1, .slice A2 m2 c2], .int .i64 (d' : Int), .pointer (some ⟨g, 0, none⟩)] (wr.alloc (.cells #[.int .i64 k', .int .i64 n', .string s', .slice A1 m1 c1, .slice A2 m2 c2] 26)) (FitPost (fitB l[i] d' M) (V.size l[i]) g M (wr.alloc (.cells #[.int .i64 k', .int .i64 n', .string s', .slice A1 m1 c1, .slice A2 m2 c2] 26)))) :=
                  IH.out _ _ _ _ _ _ S HM1.out (HVA.out.below (below_box _)) HS.out (HND.out.below (below_box _)) (by omega) (by omega)
                cases hx : fitB l[i] d' M
                · have HBAD := hid (hfit.out.bad hlti hx)
                  rw [hx] at C
                  clear hx
                  go_wp2_with (go_at_call 91; refine C.out.mono ?_; rintro e w2 ⟨M2, rfl, hn2, hM2, _, hch2⟩; have HF2 := hid hn2; have HF3 := hid hch2; clear hn2 hch2)
                  go_ret
                  exact ⟨M2, ret_bool (by rw [HX.out]; exact HBAD.out.symm), HF2.out, by omega, fun h => (by rw [HX.out] at h; exact absurd (HBAD.out.symm.trans h) (by simp)), HCH.out.trans ((Ch.of_below (below_box _)).trans HF3.out)⟩
                · have HGOOD := hid (hfit.out.next hlti hx)
                  rw [hx] at C
                  clear hx
                  go_wp2_with (go_at_call 91; refine C.out.mono ?_; rintro e w2 ⟨M2, rfl, hn2, hM2, hM3, hch2⟩; have HF2 := hid hn2; have HF3 := hid hch2; have HF4 := hid (hM3 rfl); clear hn2 hch2 hM3)
                  go_roundw
                  case rel => exact ⟨i + 1, M2, by omega, by go_num, HF2.out, by rw [HF4.out]; exact HGOOD.out, HCH.out.trans ((Ch.of_below (below_box _)).trans HF3.out)⟩
                  case measure => simp [intOf]; omega
              · have HDONE := hid (hfit.out.done hlti)
                go_wp2_with fail
                go_ret
                exact ⟨M, ret_bool (by rw [HX.out]; exact HDONE.out.1.symm), HND.out, by omega, fun _ => by rw [HDONE.out.2, HZ.out]; omega, HCH.out⟩
        · have HX := hid (H0.out (.inr (.inr (.inl (by simp; omega)))))
          go_enter Try.func91, Try.ntmps91
          go_wp2_with fail
          go_ret
          exact ⟨N, ret_bool HX.out.symm, HN.out.below (below_box _), Nat.le_refl _, fun h => (by rw [HX.out] at h; cases h), BOX.out _⟩
end Go.Proofs.Ytpoofeiajmkfdaa
