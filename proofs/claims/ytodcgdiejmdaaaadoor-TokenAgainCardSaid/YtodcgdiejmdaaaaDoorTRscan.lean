/-
  Scan of the reference, by its contract.
-/
import Derived.Test.YtodcgdiejmdaaaaDoorTRone
import Derived.Test.YtodcgdiejmdaaaaDoorTScan
namespace Go.Proofs.YtodcgdiejmdaaaaDoor
open Go.RowKit

/-- The loop of the reference's Scan. -/
def RsRel (w : World) (s : ByteArray) (R : Tk.SR) (v vi : Value) (wr : World) : Prop :=
  ∃ (m : Nat) (acc : List Tk.T) (f : Nat), m ≤ s.size ∧ vi = .int .i64 (m : Int) ∧ Hid (OwnT wr w.heap.size v acc) ∧ Hid (Below w.heap.size w wr) ∧
    Hid (Tk.scan s.size (f + 1) (s.data.toList.drop m) acc = R ∧ s.size - m ≤ f) ∧ acc.length ≤ m
theorem scan_skip {N f : Nat} {c : UInt8} {l : List UInt8} {acc : List Tk.T} (h : Tk.blank c = true) : Tk.scan N (f + 1) (c :: l) acc = Tk.scan N (f + 1) l acc := by
  rw [Tk.scan_eq, Tk.scan_eq, List.dropWhile_cons, if_pos h]
theorem drop_nb {c : UInt8} {l : List UInt8} (h : Tk.blank c = false) : (c :: l).dropWhile Tk.blank = c :: l := by rw [List.dropWhile_cons, if_neg (by rw [h]; simp)]
theorem suffix_drop (s : ByteArray) {r : List UInt8} (h : r <:+ s.data.toList) : r = s.data.toList.drop (s.size - r.length) := by
  obtain ⟨p, hp⟩ := h
  have hl : p.length + r.length = s.size := by rw [← List.length_append, hp]; simp
  rw [← hp, show s.size - r.length = p.length by omega]
  exact List.drop_left.symm

theorem rscan_big {s : ByteArray} (w : World) (h : s.size > 16384) : Calls Tryd.prog 12 #[.string s] w (ScanPost w (Tk.scanA s.data.toList)) := by
  have HT : Hid (Tk.scanA s.data.toList = .bad 0 6) := by show _ = _; unfold Tk.scanA; rw [if_pos (by simpa using h)]
  rw [HT.out]
  have h1 : (16384 : Int) < (s.size : Int) := by omega
  go_enter Tryd.func12, Tryd.ntmps12
  go_wp2_with fail
  go_ret3
  exact ⟨rfl, Below.refl _ _⟩

set_option maxRecDepth 100000 in
set_option maxHeartbeats 8000000 in
theorem rscan_any (s : ByteArray) (w : World) : Calls Tryd.prog 12 #[.string s] w (ScanPost w (Tk.scanA s.data.toList)) := by
  by_cases hbig : s.size > 16384
  · exact rscan_big w hbig
  have hsz : s.size ≤ 16384 := by omega
  have h1 : ¬ (16384 : Int) < (s.size : Int) := by omega
  have HT : Hid (Tk.scanA s.data.toList = Tk.scan s.size (s.size + 1) s.data.toList []) := by show _ = _; unfold Tk.scanA; rw [if_neg (by simpa using hsz)]; rfl
  have hlen : s.data.toList.length = s.size := by simp
  generalize Tk.scanA s.data.toList = R at *
  clear hbig
  go_enter Tryd.func12, Tryd.ntmps12
  go_wp2_with fail
  go_loopw [5, 6] (fun v5 v6 wr => RsRel w s R v5 v6 wr) (fun _ v6 _ => s.size - (intOf v6).toNat)
  case atStart =>
    exact ⟨0, [], s.size, Nat.zero_le _, rfl, ⟨rfl, .inl ⟨rfl, rfl⟩⟩, Below.refl _ _, ⟨HT.out.symm, by omega⟩, by simp⟩
  case round =>
    obtain ⟨m, acc, f, hm, rfl, HO, HB, HF, hal⟩ := hrel
    have hbs := HB.out.size
    by_cases hlt : m < s.size
    · have HG := hid (drop_get s m hlt)
      have hcn := (s[m]).toNat_lt
      have hlt' : (m : Int) < (s.size : Int) := by omega
      cases hbl : Tk.blank s[m] with
      | true =>
        have HS : Hid (Tk.scan s.size (f + 1) (s.data.toList.drop (m + 1)) acc = R) := by show _ = _; rw [← HF.out.1, HG.out, scan_skip hbl]
        unfold Tk.blank at hbl
        simp only [Bool.or_eq_true, decide_eq_true_eq] at hbl
        have HF2 := hid HF.out.2
        clear HF
        rcases hbl with (hb | hb) | hb
        · have i1 : ((s[m].toNat : Int) == 32) = true := by simp; omega
          clear hb
          go_wp2_with fail
          refine ⟨⟨m + 1, acc, f, by omega, by go_num, HO, HB, ⟨HS.out, by have := HF2.out; omega⟩, by omega⟩, ?_⟩
          simp [intOf]; omega
        · have i1 : ((s[m].toNat : Int) == 9) = true := by simp; omega
          have i2 : ((s[m].toNat : Int) == 32) = false := by simp; omega
          clear hb
          go_wp2_with fail
          refine ⟨⟨m + 1, acc, f, by omega, by go_num, HO, HB, ⟨HS.out, by have := HF2.out; omega⟩, by omega⟩, ?_⟩
          simp [intOf]; omega
        · have i1 : ((s[m].toNat : Int) == 10) = true := by simp; omega
          have i2 : ((s[m].toNat : Int) == 32) = false := by simp; omega
          have i3 : ((s[m].toNat : Int) == 9) = false := by simp; omega
          clear hb
          go_wp2_with fail
          refine ⟨⟨m + 1, acc, f, by omega, by go_num, HO, HB, ⟨HS.out, by have := HF2.out; omega⟩, by omega⟩, ?_⟩
          simp [intOf]; omega
      | false =>
        have HDN := hid (drop_nb (l := s.data.toList.drop (m + 1)) hbl)
        unfold Tk.blank at hbl
        simp only [Bool.or_eq_false_iff, decide_eq_false_iff_not] at hbl
        obtain ⟨⟨n1, n2⟩, n3⟩ := hbl
        have i1 : ((s[m].toNat : Int) == 32) = false := by simp; omega
        have i2 : ((s[m].toNat : Int) == 9) = false := by simp; omega
        have i3 : ((s[m].toNat : Int) == 10) = false := by simp; omega
        clear n1 n2 n3
        have hxl : (s.extract m s.size).data.toList = s[m] :: s.data.toList.drop (m + 1) := by
          rw [extract_list, List.take_of_length_le (by simp), HG.out]
        have hxs : (s.extract m s.size).size = s.size - m := by
          have := congrArg List.length hxl
          rw [List.length_cons, drop_len] at this
          have h2 : (s.extract m s.size).data.toList.length = (s.extract m s.size).size := by simp
          omega
        have CO := hid (fun W => rone_any (s.extract m s.size) s[m] _ W hxl (by omega))
        rw [hxs] at CO
        have hm0 : 0 ≤ (m : Int) := by omega
        have hm1 : (m : Int) ≤ (s.size : Int) := by omega
        have htm : ((m : Int)).toNat = m := by omega
        have hdl : Hid (((s[m] :: s.data.toList.drop (m + 1)).length : Int) = (s.size : Int) - (m : Int)) := by show _ = _; rw [List.length_cons, drop_len]; omega
        have HSE : Hid (R = match Tk.tok (s[m] :: s.data.toList.drop (m + 1)) with
          | .bad e => .bad (m : Int) e
          | .good k t n r => if k = 0 then .good (acc ++ [⟨k, (m : Int), t, n⟩]) else Tk.scan s.size f r (acc ++ [⟨k, (m : Int), t, n⟩])) := by
          show _ = _
          rw [← HF.out.1, Tk.scan_eq, HG.out, HDN.out, hdl.out, show (s.size : Int) - ((s.size : Int) - (m : Int)) = (m : Int) by omega]
          cases Tk.tok (s[m] :: s.data.toList.drop (m + 1)) <;> rfl
        have HSF : Hid (s[m] :: s.data.toList.drop (m + 1) <:+ s.data.toList) := by
          show _ <:+ _
          rw [← HG.out]; exact List.drop_suffix _ _
        have HF2 := hid HF.out.2
        clear hxl hxs HF HDN
        cases hx : Tk.tok (s[m] :: s.data.toList.drop (m + 1)) with
        | bad k =>
          rw [hx] at CO HSE
          have hk0 : (k != 0) = true := by simpa using Tk.tok_ne hx
          simp only [oneV, tokV] at CO
          clear hx
          go_wp2_with fail
          refine (CO.out _).mono ?_
          rintro e w1 ⟨rfl, hb1⟩
          have HB1 := hid (HB.out.trans (hb1.mono hbs))
          clear hb1
          go_wp2_with fail
          go_ret3
          rw [HSE.out]
          exact ⟨rfl, HB1.out.alloc HB1.out.size _⟩
        | good k t nn r2 =>
          rw [hx] at CO HSE
          have HTL := hid (Tk.tok_len hx)
          have hk : ¬ k = 0 := fun h => by
            rcases HTL.out with h' | h'
            · exact absurd h'.2.1 (by simp)
            · omega
          have hrl : r2.length + 1 ≤ s.size - m := by
            rcases HTL.out with h' | h'
            · exact absurd h'.1 hk
            · have := h'.2.2
              rw [List.length_cons, drop_len] at this
              omega
          have HDR : Hid (r2 = s.data.toList.drop (s.size - r2.length)) := suffix_drop s ((Tk.tok_suffix hx).trans HSF.out)
          have HSE2 : Hid (Tk.scan s.size f r2 (acc ++ [⟨k, (m : Int), t, nn⟩]) = R) := by show _ = _; rw [HSE.out]; simp only []; rw [if_neg hk]
          obtain ⟨m2, hm2⟩ : ∃ m2, m2 = s.size - r2.length := ⟨_, rfl⟩
          have hadv : ((s.size - m : Nat) : Int) - (r2.length : Int) = (m2 : Int) - (m : Int) := by omega
          simp only [oneV, tokV] at CO
          rw [hadv] at CO
          rw [← hm2] at HDR
          have hm2a : m + 1 ≤ m2 := by omega
          have hm2b : m2 ≤ s.size := by omega
          have hsum : (m : Int) + ((m2 : Int) - (m : Int)) = (m2 : Int) := by omega
          clear hx hadv hm2 hrl hk
          have HDR2 : Hid (Tk.scan s.size f (s.data.toList.drop m2) (acc ++ [⟨k, (m : Int), t, nn⟩]) = R) := by show _ = _; rw [← HDR.out]; exact HSE2.out
          go_wp2_with fail
          refine (CO.out _).mono ?_
          rintro e w1 ⟨rfl, hb1⟩
          have HB1 := hid (HB.out.trans (hb1.mono hbs))
          have HO1 := hid (own_below HO.out hb1)
          have hbs1 := HB1.out.size
          have hHOH : Hid (OwnT (w1.alloc (.cells #[.int .i64 k, .int .i64 (m : Int), .string (byS t), .int .i64 nn] 30)) w.heap.size u5 acc) := World.ownsRow.alloc HO1.out _
          have hrow : Hid (∀ b, u5.ownBlock = some b → w.heap.size ≤ b) := fun b hb => (World.ownsRow.lt HO1.out b hb).1
          have HB4 : Hid (Below w.heap.size w (w1.alloc (.cells #[.int .i64 k, .int .i64 (m : Int), .string (byS t), .int .i64 nn] 30))) := HB1.out.alloc hbs1 _
          clear hb1
          go_wp2_with (at_builtin; refine wpList_appTok rfl (.tmp 49) (.tmp 51) rfl w.heap.size _ acc ⟨k, (m : Int), t, nn⟩ rfl hHOH.out ((show _ = Value.slice (some ⟨w1.heap.size + 1, 0, none⟩) 1 1 from rfl).trans (by simp)) (by omega) (by simp; omega) ?_; intro v' w' hown' hgb')
          refine ⟨⟨m2, acc ++ [⟨k, (m : Int), t, nn⟩], f - 1, hm2b, rfl, hid hown', HB4.out.grown hgb' (by simp; omega) hrow.out, ⟨?_, by have := HF2.out; omega⟩, by simp only [List.length_append, List.length_singleton]; omega⟩, ?_⟩
          · have hf1 : 1 ≤ f := by have := HF2.out; omega
            rw [show f - 1 + 1 = f by omega]
            exact HDR2.out
          · simp [intOf]; omega
    · have hmE : m = s.size := by omega
      subst hmE
      have HG := hid (drop_end s s.size (Nat.le_refl _))
      have HT3 : Hid (R = .good (acc ++ [⟨0, (s.size : Int), [], 0⟩])) := by show _ = _; rw [← HF.out.1, HG.out, Tk.scan_last (by rfl)]
      have hrow : Hid (∀ b, u5.ownBlock = some b → w.heap.size ≤ b) := fun b hb => (World.ownsRow.lt HO.out b hb).1
      have hlt' : ¬ ((s.size : Int) < (s.size : Int)) := by omega
      go_wp2_with (at_builtin; refine wpList_appTok rfl (.tmp 56) (.tmp 60) rfl w.heap.size _ acc ⟨0, (s.size : Int), [], 0⟩ rfl HO.out rfl (by omega) hbs ?_; intro v' w' hown' hgb')
      go_ret3
      rw [HT3.out]
      exact ⟨v', rfl, hown', HB.out.grown hgb' hbs hrow.out⟩
end Go.Proofs.YtodcgdiejmdaaaaDoor
