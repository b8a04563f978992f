/-
  A string literal, read by the program's scanner.
-/
import Derived.Test.YtodcgdiejmdaaaaDoorTEsc
namespace Go.Proofs.YtodcgdiejmdaaaaDoor
open Go.RowKit

theorem Ch.base {g B : Nat} {w w1 w2 : World} (h : Ch g w w1) (hb : Below B w1 w2) (hB : w.heap.size ≤ B) : Ch g w w2 :=
  ⟨hb.os.trans h.os, hb.tape.trans h.tape, hb.output.trans h.output, Nat.le_trans h.size hb.size, fun k hk hne => (hb.block k (by omega)).trans (h.block k hk hne)⟩
theorem Own.chg {w w' : World} {base g : Nat} {e : TypeId} {v : Value} {xs : List Value} (h : Own w base e v xs) (c : Ch g w w') (hg : g < base) : Own w' base e v xs := by
  rcases h.2 with ⟨rfl, h0⟩ | ⟨k, cap, cur, rfl, hbg, hk, h1⟩
  · exact ⟨h.1, .inl ⟨rfl, h0⟩⟩
  · exact ⟨h.1, .inr ⟨k, cap, cur, rfl, hbg, (c.block k (Array.getElem?_eq_some_iff.1 hk).1 (fun e => by injection e; omega)).trans hk, h1⟩⟩
theorem Sc.under {g n B : Nat} {w w' : World} {s : ByteArray} {l : List UInt8} (h : Sc w g s n l) (hb : Below B w w') (hg : g < B) : Sc w' g s n l := ⟨(hb.block g hg).trans h.1, h.2⟩

/-- The loop of a literal: R is its end, acc what was read. -/
def LitRel (w : World) (g : Nat) (s : ByteArray) (R : Tk.TR) (v : Value) (wr : World) : Prop :=
  ∃ m r acc f, Hid (Sc wr g s m r) ∧ Hid (wr.heap[w.heap.size]? = some zTok) ∧ Hid (Ch g w wr) ∧ Hid (OwnB wr (w.heap.size + 1) v acc) ∧ Hid (Tk.lit f r acc = R ∧ r.length ≤ f ∧ acc.length + r.length ≤ 16384 ∧ w.heap.size + 1 ≤ wr.heap.size)

theorem lit_nil (f : Nat) (acc : List UInt8) : Tk.lit f [] acc = .bad 4 := by cases f <;> rfl

theorem code_bad {l : List UInt8} {k : Int} (h : Tk.code l = .bad k) : k = 3 ∨ k = 4 := by
  unfold Tk.code at h
  split at h
  · cases h; simp
  · split at h
    · cases h; simp
    · split at h
      · cases h; simp
      · split at h
        · cases h; simp
        · cases h
theorem esc_bad {l : List UInt8} {k : Int} (h : Tk.esc l = .bad k) : k = 3 ∨ k = 4 := by
  unfold Tk.esc at h
  split at h
  · cases h; simp
  · split at h
    · cases h
    · split at h
      · cases h
      · split at h
        · cases h
        · split at h
          · exact code_bad h
          · cases h; simp

set_option maxRecDepth 100000 in
set_option maxHeartbeats 6000000 in
theorem literal_any (g n : Nat) (s : ByteArray) (c : UInt8) (l : List UInt8) (w : World) (h : Sc w g s n (c :: l)) :
    Calls Tryd.prog 35 #[.pointer (some ⟨g, 0, none⟩)] w (TPost g s w (Tk.lit l.length l [])) := by
  have hg := h.lt
  have hsz := h.2.2.2
  have hlen := h.len
  simp only [List.length_cons] at hlen
  have HA : Hid (Sc (w.alloc zTok) g s n (c :: l)) := h.below ((Below.refl _ _).alloc (Nat.le_refl _) _)
  have HZ : Hid ((w.alloc zTok).heap[w.heap.size]? = some zTok) := zalloc w
  have CR := hid (read_at g n s c l _ HA.out)
  have HL : Hid (l.length ≤ 16384) := by show _ ≤ _; omega
  have HR : Hid (Tk.lit l.length l [] = Tk.lit l.length l []) := rfl
  generalize hRR : Tk.lit l.length l [] = R at *
  clear h
  go_enter Tryd.func35, Tryd.ntmps35
  go_wp2_with fail
  refine CR.out.mono ?_
  rintro e w1 ⟨rfl, hs1, hch1⟩
  have HREL : Hid (LitRel w g s R (.slice none 0 0) w1) := ⟨n + 1, l, [], l.length, hs1, hch1.obj HZ.out (by omega), (Ch.of_below ((Below.refl _ _).alloc (Nat.le_refl _) _)).trans hch1, Own.nil _ _ _, ⟨hRR, Nat.le_refl _, by simpa using HL.out, by have := hch1.size; simp at this; omega⟩⟩
  clear hs1 hch1 hRR
  go_wp2_with fail
  go_loopw [4] (fun v4 wr => LitRel w g s R v4 wr) (fun _ wr => s.size - posOf wr g)
  case atStart => exact HREL.out
  case round =>
    obtain ⟨m, r, acc, f, HS, HZ1, HC, HO, HF⟩ := hrel
    have hgr := HS.out.lt
    have hlr := HS.out.len
    cases r with
    | nil =>
      have HT : Hid (R = .bad 4) := by show _ = _; rw [← HF.out.1, lit_nil]
      have CR2 := hid (read_end g m s _ HS.out)
      go_wp2_with fail
      refine CR2.out.mono ?_
      rintro e w2 ⟨rfl, _, hch2⟩
      have hz2 := hch2.obj HZ1.out (by omega : w.heap.size ≠ g)
      have HC2 : Hid (Ch g w w2) := HC.out.trans hch2
      obtain ⟨b0, b1, b2, b3⟩ := zcells hz2
      have f0 := zfree hz2 0
      have f1 := zfree hz2 1
      have f2 := zfree hz2 2
      have f3 := zfree hz2 3
      clear hz2 hch2
      go_wp2_with fail
      refine (fault_end _).mono ?_
      rintro e w3 ⟨rfl, rfl⟩
      go_wp2_with fail
      refine bodyPost_ret (v := .tuple #[tokV 0 0 [] 0, .int .i64 4]) (by simp [results, Tryd.results35, go_sem, tokV, byS, b0, b1, b2, b3]) rfl ?_
      rw [HT.out]
      exact ⟨rfl, ch4 HC2.out (Nat.le_refl _)⟩
    | cons c1 r =>
      have CR2 := hid (read_at g m s c1 r _ HS.out)
      have hcn := c1.toNat_lt
      simp only [List.length_cons] at hlr
      have HF2 : Hid (∃ f', f = f' + 1) := ⟨f - 1, by have := HF.out.2.1; simp only [List.length_cons] at this; omega⟩
      obtain ⟨f, rfl⟩ := HF2.out
      have HT : Hid (R = if c1.toNat = 34 then (if acc.length > 4096 then .bad 6 else .good 4 acc 0 r) else if c1.toNat = 92 then (match Tk.esc r with
        | .bad e => .bad e
        | .good d r' => Tk.lit f r' (acc ++ [d])) else if c1.toNat < 32 ∨ c1.toNat > 126 then .bad 3 else Tk.lit f r (acc ++ [c1])) := by show _ = _; rw [← HF.out.1]; rfl
      have HF3 : Hid (r.length ≤ f ∧ acc.length + r.length + 1 ≤ 16384 ∧ w.heap.size + 1 ≤ wr.heap.size) := by
        have := HF.out.2
        simp only [List.length_cons] at this
        exact ⟨by omega, by omega, by omega⟩
      clear HF HF2
      obtain ⟨A, cc, hv4⟩ := (OwnB.bs HO.out).form
      subst hv4
      have hal : acc.length ≤ 16384 := by have := HF3.out; omega
      by_cases h34 : c1.toNat = 34
      · have i34 : (c1.toNat : Int) = 34 := by omega
        rw [if_pos h34] at HT
        by_cases h4096 : acc.length > 4096
        · rw [if_pos h4096] at HT
          have i1 : (4096 : Int) < (acc.length : Int) := by omega
          go_wp2_with fail
          refine CR2.out.mono ?_
          rintro e w2 ⟨rfl, hs2, hch2⟩
          have HS2 := hid hs2
          have hz2 := hch2.obj HZ1.out (by omega : w.heap.size ≠ g)
          have HZ2 := hid hz2
          have HC2 : Hid (Ch g w w2) := HC.out.trans hch2
          have HO2 := hid (HO.out.chg hch2 (by omega))
          have hs2z : w.heap.size + 1 ≤ w2.heap.size := by have := hch2.size; have := HF3.out; omega
          obtain ⟨b0, b1, b2, b3⟩ := zcells hz2
          have f0 := zfree hz2 0
          have f1 := zfree hz2 1
          have f2 := zfree hz2 2
          have f3 := zfree hz2 3
          clear hs2 hz2 hch2
          go_wp2_with fail
          refine bodyPost_ret (v := .tuple #[tokV 0 0 [] 0, .int .i64 6]) (by simp [results, Tryd.results35, go_sem, tokV, byS, b0, b1, b2, b3]) rfl ?_
          rw [HT.out]
          exact ⟨rfl, ch4 HC2.out (Nat.le_refl _)⟩
        · rw [if_neg h4096] at HT
          have i1 : ¬ (4096 : Int) < (acc.length : Int) := by omega
          go_wp2_with fail
          refine CR2.out.mono ?_
          rintro e w2 ⟨rfl, hs2, hch2⟩
          have HS2 := hid hs2
          have hz2 := hch2.obj HZ1.out (by omega : w.heap.size ≠ g)
          have HZ2 := hid hz2
          have HC2 : Hid (Ch g w w2) := HC.out.trans hch2
          have HO2 := hid (HO.out.chg hch2 (by omega))
          have hs2z : w.heap.size + 1 ≤ w2.heap.size := by have := hch2.size; have := HF3.out; omega
          obtain ⟨b0, b1, b2, b3⟩ := zcells hz2
          have f0 := zfree hz2 0
          have f1 := zfree hz2 1
          have f2 := zfree hz2 2
          have f3 := zfree hz2 3
          clear hs2 hz2 hch2
          have hcv := (OwnB.bs HO2.out).conv
          unfold strOf at hcv
          go_wp2_with fail
          refine bodyPost_ret (v := .tuple #[tokV 4 0 acc 0, .int .i64 0]) (by simp [results, Tryd.results35, go_sem, tokV, byS, b0, b1, b2, b3]) rfl ?_
          rw [HT.out]
          exact ⟨rfl, ch4 HC2.out (Nat.le_refl _), m + 1, sc4 HS2.out (by omega)⟩
      · rw [if_neg h34] at HT
        have i34 : ¬ (c1.toNat : Int) = 34 := by omega
        by_cases h92 : c1.toNat = 92
        · have i92 : (c1.toNat : Int) = 92 := by omega
          rw [if_pos h92] at HT
          go_wp2_with fail
          refine CR2.out.mono ?_
          rintro e w2 ⟨rfl, hs2, hch2⟩
          have HS2 := hid hs2
          have hz2 := hch2.obj HZ1.out (by omega : w.heap.size ≠ g)
          have HZ2 := hid hz2
          have HC2 : Hid (Ch g w w2) := HC.out.trans hch2
          have HO2 := hid (HO.out.chg hch2 (by omega))
          have hs2z : w.heap.size + 1 ≤ w2.heap.size := by have := hch2.size; have := HF3.out; omega
          obtain ⟨b0, b1, b2, b3⟩ := zcells hz2
          have f0 := zfree hz2 0
          have f1 := zfree hz2 1
          have f2 := zfree hz2 2
          have f3 := zfree hz2 3
          clear hs2 hz2 hch2
          go_wp2_with fail
          refine (escape_any g (m + 1) s r _ HS2.out).mono ?_
          intro e w3 hp
          cases hx : Tk.esc r with
          | bad k =>
            rw [hx] at hp HT
            obtain ⟨rfl, hch3⟩ := hp
            have hk0 : (k != 0) = true := by have := esc_bad hx; simp; omega
            have hz3 := hch3.obj HZ2.out (by omega : w.heap.size ≠ g)
            have HC3 : Hid (Ch g w w3) := HC2.out.trans hch3
            clear b0 b1 b2 b3 f0 f1 f2 f3 hch3
            obtain ⟨b0, b1, b2, b3⟩ := zcells hz3
            have f0 := zfree hz3 0
            have f1 := zfree hz3 1
            have f2 := zfree hz3 2
            have f3 := zfree hz3 3
            clear hz3 hx
            go_wp2_with fail
            refine bodyPost_ret (v := .tuple #[tokV 0 0 [] 0, .int .i64 k]) (by simp [results, Tryd.results35, go_sem, tokV, byS, b0, b1, b2, b3]) rfl ?_
            rw [HT.out]
            exact ⟨rfl, ch4 HC3.out (Nat.le_refl _)⟩
          | good d r2 =>
            rw [hx] at hp HT
            obtain ⟨rfl, hch3, m3, hs3⟩ := hp
            have HLE : Hid (r2.length + 1 ≤ r.length) := Tk.esc_len hx
            have HS3 := hid hs3
            have HZ3 := hid (hch3.obj HZ2.out (by omega : w.heap.size ≠ g))
            have HC3 : Hid (Ch g w w3) := HC2.out.trans hch3
            have HO3 := hid (HO2.out.chg hch3 (by omega))
            have hs3z : w.heap.size + 1 ≤ w3.heap.size := by have := hch3.size; omega
            clear hch3 hs3 hx
            clear b0 b1 b2 b3 f0 f1 f2 f3
            have hb : w.heap.size + 1 ≤ w3.heap.size := hs3z
            go_wp2_with (at_builtin; refine wpList_app8 rfl (.tmp 44) (.tmp 46) rfl (w.heap.size + 1) _ acc _ d rfl rfl HO3.out rfl (by omega) hb ?_; intro v' w' hown' hb')
            have HS9 := hid (HS3.out.under hb' (by omega))
            refine ⟨⟨m3, r2, acc ++ [d], f, HS9.out, (hb'.block _ (by omega)).trans HZ3.out, HC3.out.base hb' (by omega), hown', ⟨HT.out.symm, by have := HLE.out; have := HF3.out; omega, by have := HLE.out; have := HF3.out; simp only [List.length_append, List.length_singleton]; omega, Nat.le_trans hb hb'.size⟩⟩, ?_⟩
            rw [HS9.out.pos, HS.out.pos]
            have := HS9.out.len
            have := HLE.out; have := HF3.out
            omega
        · rw [if_neg h92] at HT
          have i92 : ¬ (c1.toNat : Int) = 92 := by omega
          by_cases hr : c1.toNat < 32 ∨ c1.toNat > 126
          · rw [if_pos hr] at HT
            have hr2 : (decide ((c1.toNat : Int) < 32) || decide ((126 : Int) < (c1.toNat : Int))) = true := by simp; omega
            rcases (by omega : (c1.toNat : Int) < 32 ∨ (¬ (c1.toNat : Int) < 32 ∧ (126 : Int) < (c1.toNat : Int))) with j1 | ⟨j1, j2⟩
            · clear hr hr2
              go_wp2_with fail
              refine CR2.out.mono ?_
              rintro e w2 ⟨rfl, hs2, hch2⟩
              have HS2 := hid hs2
              have hz2 := hch2.obj HZ1.out (by omega : w.heap.size ≠ g)
              have HZ2 := hid hz2
              have HC2 : Hid (Ch g w w2) := HC.out.trans hch2
              have HO2 := hid (HO.out.chg hch2 (by omega))
              have hs2z : w.heap.size + 1 ≤ w2.heap.size := by have := hch2.size; have := HF3.out; omega
              obtain ⟨b0, b1, b2, b3⟩ := zcells hz2
              have f0 := zfree hz2 0
              have f1 := zfree hz2 1
              have f2 := zfree hz2 2
              have f3 := zfree hz2 3
              clear hs2 hz2 hch2
              go_wp2_with fail
              refine (fault_at c1 _).mono ?_
              rintro e w3 ⟨rfl, rfl⟩
              go_wp2_with fail
              refine bodyPost_ret (v := .tuple #[tokV 0 0 [] 0, .int .i64 3]) (by simp [results, Tryd.results35, go_sem, tokV, byS, b0, b1, b2, b3]) rfl ?_
              rw [HT.out]
              exact ⟨rfl, ch4 HC2.out (Nat.le_refl _)⟩
            · clear hr hr2
              go_wp2_with fail
              refine CR2.out.mono ?_
              rintro e w2 ⟨rfl, hs2, hch2⟩
              have HS2 := hid hs2
              have hz2 := hch2.obj HZ1.out (by omega : w.heap.size ≠ g)
              have HZ2 := hid hz2
              have HC2 : Hid (Ch g w w2) := HC.out.trans hch2
              have HO2 := hid (HO.out.chg hch2 (by omega))
              have hs2z : w.heap.size + 1 ≤ w2.heap.size := by have := hch2.size; have := HF3.out; omega
              obtain ⟨b0, b1, b2, b3⟩ := zcells hz2
              have f0 := zfree hz2 0
              have f1 := zfree hz2 1
              have f2 := zfree hz2 2
              have f3 := zfree hz2 3
              clear hs2 hz2 hch2
              go_wp2_with fail
              refine (fault_at c1 _).mono ?_
              rintro e w3 ⟨rfl, rfl⟩
              go_wp2_with fail
              refine bodyPost_ret (v := .tuple #[tokV 0 0 [] 0, .int .i64 3]) (by simp [results, Tryd.results35, go_sem, tokV, byS, b0, b1, b2, b3]) rfl ?_
              rw [HT.out]
              exact ⟨rfl, ch4 HC2.out (Nat.le_refl _)⟩
          · rw [if_neg hr] at HT
            have j1 : ¬ (c1.toNat : Int) < 32 := by omega
            have j2 : ¬ (126 : Int) < (c1.toNat : Int) := by omega
            clear hr
            go_wp2_with fail
            refine CR2.out.mono ?_
            rintro e w2 ⟨rfl, hs2, hch2⟩
            have HS2 := hid hs2
            have hz2 := hch2.obj HZ1.out (by omega : w.heap.size ≠ g)
            have HZ2 := hid hz2
            have HC2 : Hid (Ch g w w2) := HC.out.trans hch2
            have HO2 := hid (HO.out.chg hch2 (by omega))
            have hs2z : w.heap.size + 1 ≤ w2.heap.size := by have := hch2.size; have := HF3.out; omega
            obtain ⟨b0, b1, b2, b3⟩ := zcells hz2
            have f0 := zfree hz2 0
            have f1 := zfree hz2 1
            have f2 := zfree hz2 2
            have f3 := zfree hz2 3
            clear hs2 hz2 hch2
            clear b0 b1 b2 b3 f0 f1 f2 f3
            have hb : w.heap.size + 1 ≤ w2.heap.size := hs2z
            go_wp2_with (at_builtin; refine wpList_app8 rfl (.tmp 12) (.tmp 15) rfl (w.heap.size + 1) _ acc _ c1 rfl rfl HO2.out rfl (by omega) hb ?_; intro v' w' hown' hb')
            have HS9 := hid (HS2.out.under hb' (by omega))
            refine ⟨⟨m + 1, r, acc ++ [c1], f, HS9.out, (hb'.block _ (by omega)).trans HZ2.out, HC2.out.base hb' (by omega), hown', ⟨HT.out.symm, by have := HF3.out; omega, by have := HF3.out; simp only [List.length_append, List.length_singleton]; omega, Nat.le_trans hb hb'.size⟩⟩, ?_⟩
            rw [HS9.out.pos, HS.out.pos]
            have := HS9.out.len
            have := HF3.out
            omega
end Go.Proofs.YtodcgdiejmdaaaaDoor
