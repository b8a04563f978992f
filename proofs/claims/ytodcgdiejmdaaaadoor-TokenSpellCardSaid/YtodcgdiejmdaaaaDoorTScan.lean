/-
  Scan of the program, by its contract.
-/
import Derived.Test.YtodcgdiejmdaaaaDoorTTok
import Derived.Test.YtodcgdiejmdaaaaDoorTApp
namespace Go.Proofs.YtodcgdiejmdaaaaDoor
open Go.RowKit

theorem tok_bad {l : List UInt8} {k : Int} (h : Tk.tok l = .bad k) : k ≠ 0 := by
  have hlit : ∀ (f : Nat) (l acc : List UInt8), Tk.lit f l acc = .bad k → k ≠ 0 := by
    intro f
    induction f with
    | zero => intro l acc h; simp [Tk.lit] at h; omega
    | succ f ih =>
      intro l acc h
      cases l with
      | nil => simp [Tk.lit] at h; omega
      | cons c r =>
        unfold Tk.lit at h
        split at h
        · split at h <;> cases h; omega
        · split at h
          · split at h
            · rename_i e he
              cases h
              rcases esc_bad he with h | h <;> omega
            · exact ih _ _ h
          · split at h
            · cases h; omega
            · exact ih _ _ h
  unfold Tk.tok at h
  split at h
  · cases h
  · split at h
    · unfold Tk.wordT at h
      simp only [] at h
      split at h <;> cases h; omega
    · split at h
      · unfold Tk.num at h
        simp only [] at h
        split at h
        · cases h; omega
        · split at h <;> cases h; omega
      · split at h
        · exact hlit _ _ _ h
        · unfold Tk.sgn at h
          split at h
          · cases h
          · split at h <;> cases h; omega

theorem own_lower {w : World} {base B size n : Nat} {e : TypeId} {v : Value} {xs : List Value} (h : w.ownsRow base e size v n xs) (hB : B ≤ base) : w.ownsRow B e size v n xs := by
  rcases h.2 with h0 | ⟨k, cap, cur, rfl, hbg, hk⟩
  · exact ⟨h.1, .inl h0⟩
  · exact ⟨h.1, .inr ⟨k, cap, cur, rfl, by omega, hk⟩⟩

/-- What Scan leaves. -/
def ScanPost (w : World) (r : Tk.SR) (e : Ending) (w' : World) : Prop := match r with
  | .bad o c => e = .returned (.tuple #[.slice none 0 0, .int .i64 o, .int .i64 c]) ∧ Below w.heap.size w w'
  | .good l => ∃ v, e = .returned (.tuple #[v, .int .i64 0, .int .i64 0]) ∧ OwnT w' w.heap.size v l ∧ Below w.heap.size w w'

/-- The loop of Scan. -/
def ScanRel (w : World) (s : ByteArray) (R : Tk.SR) (v : Value) (wr : World) : Prop :=
  ∃ m r acc f, Hid (Sc wr w.heap.size s m r) ∧ Hid (Below w.heap.size w wr) ∧ Hid (OwnT wr (w.heap.size + 1) v acc) ∧ Hid (Tk.scan s.size f r acc = R ∧ r.length + 1 ≤ f ∧ acc.length + r.length ≤ 16384 ∧ w.heap.size + 1 ≤ wr.heap.size)

theorem scan_big {s : ByteArray} (w : World) (h : s.size > 16384) : Calls Tryd.prog 11 #[.string s] w (ScanPost w (Tk.scanA s.data.toList)) := by
  have HT : Hid (Tk.scanA s.data.toList = .bad 0 6) := by show _ = _; unfold Tk.scanA; rw [if_pos (by simpa using h)]
  rw [HT.out]
  have h1 : (16384 : Int) < (s.size : Int) := by omega
  go_enter Tryd.func11, Tryd.ntmps11
  go_wp2_with fail
  go_ret3
  exact ⟨rfl, Below.refl _ _⟩

set_option maxRecDepth 100000 in
set_option maxHeartbeats 6000000 in
theorem scan_any (s : ByteArray) (w : World) (hG : Good w) : Calls Tryd.prog 11 #[.string s] w (ScanPost w (Tk.scanA s.data.toList)) := by
  by_cases hbig : s.size > 16384
  · exact scan_big w hbig
  have hsz : s.size ≤ 16384 := by omega
  have h1 : ¬ (16384 : Int) < (s.size : Int) := by omega
  have HG := hid hG
  have HT : Hid (Tk.scanA s.data.toList = Tk.scan s.size (s.size + 1) s.data.toList []) := by show _ = _; unfold Tk.scanA; rw [if_neg (by simpa using hsz)]; rfl
  have hlen : s.data.toList.length = s.size := by simp
  generalize Tk.scanA s.data.toList = R at *
  have CA := hid (fun W => among_asc w.heap.size _ _ asc_blank W)
  clear hbig hG
  go_enter Tryd.func11, Tryd.ntmps11
  go_wp2_with fail
  go_loopw [6] (fun v6 wr => ScanRel w s R v6 wr) (fun _ wr => s.size - posOf wr w.heap.size)
  case atStart =>
    exact ⟨0, s.data.toList, [], s.size + 1, ⟨show (w.heap.push _)[w.heap.size]? = _ by simp, Nat.zero_le _, rfl, hsz⟩, (Below.refl _ _).alloc (Nat.le_refl _) _, ⟨rfl, .inl ⟨rfl, rfl⟩⟩, HT.out.symm, by rw [hlen]; omega, by rw [hlen]; simpa using hsz, by simp⟩
  case round =>
    obtain ⟨m, r, acc, f, HS, HB, HO, HF⟩ := hrel
    have hgr := HS.out.lt
    have hlr := HS.out.len
    go_wp2_with fail
    refine (CA.out wr hgr).mono ?_
    rintro e w1 ⟨k, rfl, hb1, hcl1⟩
    have HS1 := hid (HS.out.below hb1)
    have HB1 := hid (HB.out.trans (hb1.mono HB.out.size))
    have HO1 := hid (own_below HO.out hb1)
    have HCL1 := hid hcl1
    have HZ1 := hid hb1.size
    clear hb1 hcl1
    go_wp2_with fail
    refine (span_any w.heap.size m k s r Tk.blank w1 HS1.out HCL1.out).mono ?_
    rintro e w2 ⟨rfl, hch2, m2, hs2⟩
    have HS2 := hid hs2
    have HB2 := hid (HB1.out.trans (hch2.below (Nat.le_refl _) HB1.out.size))
    have HO2 := hid (own_chg HO1.out hch2 (by omega))
    have HZ2 := hid (Nat.le_trans HZ1.out hch2.size)
    have hc2 := hs2.cell1
    have hl2 := hs2.len
    have HDL := hid (Tk.dropWhile_len Tk.blank r)
    have hm2 : Hid ((s.size : Int) - ((r.dropWhile Tk.blank).length : Int) = (m2 : Int)) := by show _ = _; omega
    have HGC : Hid (GoodC w.heap.size w2) := fun W hW => HG.out.below (HB2.out.trans (hW.below (Nat.le_refl _) HB2.out.size))
    clear hs2 hch2 HS1 HB1 HO1 HCL1 HZ1
    have HF2 : Hid (∃ f', f = f' + 1) := ⟨f - 1, by have := HF.out.2.1; omega⟩
    obtain ⟨f, rfl⟩ := HF2.out
    have HT2 : Hid (R = match Tk.tok (r.dropWhile Tk.blank) with
      | .bad e => .bad ((s.size : Int) - ((r.dropWhile Tk.blank).length : Int)) e
      | .good k t n r' => if k = 0 then .good (acc ++ [⟨k, (s.size : Int) - ((r.dropWhile Tk.blank).length : Int), t, n⟩])
        else Tk.scan s.size f r' (acc ++ [⟨k, (s.size : Int) - ((r.dropWhile Tk.blank).length : Int), t, n⟩])) := by show _ = _; rw [← HF.out.1]; rfl
    rw [hm2.out] at HT2
    clear HF2
    go_wp2_with fail
    refine (token_any w.heap.size m2 s _ w2 HS2.out HGC.out).mono ?_
    intro e w3 hp
    cases hx : Tk.tok (r.dropWhile Tk.blank) with
    | bad c =>
      rw [hx] at hp HT2
      simp only [TPost, tokV] at hp
      obtain ⟨rfl, hch3⟩ := hp
      have hk0 : (c != 0) = true := by have := tok_bad hx; simp; omega
      have HB3 := hid (HB2.out.trans (hch3.below (Nat.le_refl _) HB2.out.size))
      clear hch3 hx
      go_wp2_with fail
      go_ret3
      rw [HT2.out]
      exact ⟨rfl, HB3.out.alloc HB3.out.size _⟩
    | good c t nn r2 =>
      rw [hx] at hp HT2
      simp only [TPost, tokV] at hp
      obtain ⟨rfl, hch3, m3, hs3⟩ := hp
      have HS3 := hid hs3
      have HB3 := hid (HB2.out.trans (hch3.below (Nat.le_refl _) HB2.out.size))
      have HO3 := hid (own_chg HO2.out hch3 (by omega))
      have HZ3 := hid (Nat.le_trans HZ2.out hch3.size)
      have HTL := hid (Tk.tok_len hx)
      have hown : Hid (∀ b, u6.ownBlock = some b → w.heap.size + 1 ≤ b ∧ b < w3.heap.size) := fun b hb => World.ownsRow.lt HO3.out b hb
      clear hch3 hx hs3
      have hHO : OwnT (w3.alloc (.cells #[.int .i64 c, .int .i64 (m2 : Int), .string (byS t), .int .i64 nn] 30)) (w.heap.size + 1) u6 acc := World.ownsRow.alloc HO3.out _
      have hHOH := hid hHO
      have hbs : w.heap.size + 1 ≤ w3.heap.size := by have := HF.out.2.2.2; have := HZ3.out; omega
      have hal : acc.length ≤ 1000000 := by have := HF.out.2.2.1; omega
      clear hHO
      have hne8 : Hid (some w3.heap.size ≠ u6.ownBlock) := fun e => by have := (hown.out _ e.symm).2; omega
      have hneg : Hid (some w.heap.size ≠ u6.ownBlock) := fun e => by have := (hown.out _ e.symm).1; omega
      have HB4 : Hid (Below w.heap.size w (w3.alloc (.cells #[.int .i64 c, .int .i64 (m2 : Int), .string (byS t), .int .i64 nn] 30))) := HB3.out.alloc HB3.out.size _
      have hrow : Hid (∀ k, u6.ownBlock = some k → w.heap.size ≤ k) := fun k hk => by have := (hown.out k hk).1; omega
      by_cases hc0 : c = 0
      · have HT3 : Hid (R = .good (acc ++ [⟨c, (m2 : Int), t, nn⟩])) := by show _ = _; rw [HT2.out]; simp only []; rw [if_pos hc0]
        have hc0' : (c == 0) = true := by simpa using hc0
        clear hc0
        go_wp2_with (at_builtin; refine wpList_appTok rfl (.tmp 29) (.tmp 31) rfl (w.heap.size + 1) _ acc ⟨c, (m2 : Int), t, nn⟩ rfl hHOH.out ((show _ = Value.slice (some ⟨w3.heap.size + 1, 0, none⟩) 1 1 from rfl).trans (by simp)) hal (by simp; omega) ?_; intro v' w' hown' hgb'; have hc8 : w'.cell? ⟨w3.heap.size, 0, none⟩ = some (.int .i64 c) := World.grownBy.cell hgb' (by rw [World.cell?_alloc_mark]; rfl) hne8.out)
        go_ret3
        rw [HT3.out]
        exact ⟨v', rfl, own_lower hown' (by omega), HB4.out.grown hgb' (Nat.le_trans HB3.out.size (by simp)) hrow.out⟩
      · have HT3 : Hid (R = Tk.scan s.size f r2 (acc ++ [⟨c, (m2 : Int), t, nn⟩])) := by show _ = _; rw [HT2.out]; simp only []; rw [if_neg hc0]
        have HLR : Hid (r2.length + 1 ≤ (r.dropWhile Tk.blank).length) := by
          show _ ≤ _
          rcases HTL.out with h | h
          · exact absurd h.1 hc0
          · exact h.2.2
        have hc0' : (c == 0) = false := by simpa using hc0
        clear hc0
        go_wp2_with (at_builtin; refine wpList_appTok rfl (.tmp 29) (.tmp 31) rfl (w.heap.size + 1) _ acc ⟨c, (m2 : Int), t, nn⟩ rfl hHOH.out ((show _ = Value.slice (some ⟨w3.heap.size + 1, 0, none⟩) 1 1 from rfl).trans (by simp)) hal (by simp; omega) ?_; intro v' w' hown' hgb'; have hc8 : w'.cell? ⟨w3.heap.size, 0, none⟩ = some (.int .i64 c) := World.grownBy.cell hgb' (by rw [World.cell?_alloc_mark]; rfl) hne8.out)
        have HS9 : Hid (Sc w' w.heap.size s m3 r2) := ⟨(hgb'.block _ (by simp; omega) (fun e => hneg.out e)).trans ((HS3.out.below ((Below.refl _ _).alloc (Nat.le_refl _) _)).1), HS3.out.2⟩
        refine ⟨⟨m3, r2, acc ++ [⟨c, (m2 : Int), t, nn⟩], f, HS9.out, HB4.out.grown hgb' (Nat.le_trans HB3.out.size (by simp)) hrow.out, hid hown', ⟨HT3.out.symm, ?_, ?_, Nat.le_trans hbs (Nat.le_trans (by simp) hgb'.size)⟩⟩, ?_⟩
        · have := HF.out.2.1; have := HLR.out; have := HDL.out; omega
        · have := HF.out.2.2.1; have := HLR.out; have := HDL.out; simp only [List.length_append, List.length_singleton]; omega
        · rw [HS9.out.pos, HS.out.pos]
          have := HS9.out.len; have := HLR.out; have := HDL.out
          omega
end Go.Proofs.YtodcgdiejmdaaaaDoor
