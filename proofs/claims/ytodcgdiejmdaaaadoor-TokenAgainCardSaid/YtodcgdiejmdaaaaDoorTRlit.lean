/-
  The reference's literal, by its contract.
-/
import Derived.Test.YtodcgdiejmdaaaaDoorTRnum
import Derived.Test.YtodcgdiejmdaaaaDoorTLit
import Derived.Test.YtodcgdiejmdaaaaDoorTLaw
namespace Go.Proofs.YtodcgdiejmdaaaaDoor
open Go.RowKit

/-- What literal leaves. -/
def litV (N : Nat) (r : Tk.TR) : Value := match r with
  | .bad c => .tuple #[.string ⟨#[]⟩, .int .i64 0, .int .i64 c]
  | .good _ t _ l => .tuple #[.string (byS t), .int .i64 ((N : Int) - l.length), .int .i64 0]
theorem drop_get (s : ByteArray) (m : Nat) (h : m < s.size) : s.data.toList.drop m = s[m] :: s.data.toList.drop (m + 1) := List.drop_eq_getElem_cons h
theorem drop_end (s : ByteArray) (m : Nat) (h : s.size ≤ m) : s.data.toList.drop m = [] := List.drop_eq_nil_of_le (by simpa using h)
theorem drop_len (s : ByteArray) (m : Nat) : (s.data.toList.drop m).length = s.size - m := by simp

/-- The loop of literal. -/
def RlRel (w : World) (s : ByteArray) (R : Tk.TR) (v vi : Value) (wr : World) : Prop :=
  ∃ (m : Nat) (acc : List UInt8) (f : Nat), m ≤ s.size ∧ vi = .int .i64 (m : Int) ∧ Hid (OwnB wr w.heap.size v acc) ∧ Hid (Below w.heap.size w wr) ∧
    Hid (Tk.lit f (s.data.toList.drop m) acc = R ∧ s.size - m ≤ f) ∧ acc.length ≤ m

set_option maxRecDepth 100000 in
set_option maxHeartbeats 8000000 in
theorem rliteral_any (s : ByteArray) (c0 : UInt8) (r0 : List UInt8) (w : World) (hl : s.data.toList = c0 :: r0) (hs : s.size ≤ 16384) :
    Calls Tryd.prog 40 #[.string s] w fun e w' => e = .returned (litV s.size (Tk.lit r0.length r0 [])) ∧ Below w.heap.size w w' := by
  have hlen : s.data.toList.length = s.size := by simp
  have HX := hid (fun (k : Nat) (h : k < s.size) W => rhex_any s[k] W)
  have H1 : Hid (Tk.lit (s.size - 1) (s.data.toList.drop 1) [] = Tk.lit r0.length r0 [] ∧ 1 ≤ s.size) := by
    have h := hlen
    rw [hl, List.length_cons] at h
    refine ⟨?_, by omega⟩
    rw [hl, show s.size - 1 = r0.length by omega]; rfl
  generalize Tk.lit r0.length r0 [] = R at *
  clear hl hlen
  go_enter Tryd.func40, Tryd.ntmps40
  go_wp2_with fail
  go_loopw [5, 6] (fun v5 v6 wr => RlRel w s R v5 v6 wr) (fun _ v6 _ => s.size - (intOf v6).toNat)
  case atStart => exact ⟨1, [], s.size - 1, H1.out.2, rfl, Own.nil _ _ _, Below.refl _ _, ⟨H1.out.1, Nat.le_refl _⟩, by simp⟩
  case round =>
    obtain ⟨m, acc, f, hm, rfl, HO, HB, HF, hal⟩ := hrel
    have hbs := HB.out.size
    by_cases hlt : m < s.size
    · have HF2 : Hid (∃ f', f = f' + 1) := ⟨f - 1, by have := HF.out.2; omega⟩
      obtain ⟨f, rfl⟩ := HF2.out
      have HF3 : Hid (s.size - (m + 1) ≤ f) := by have := HF.out.2; show _ ≤ _; omega
      have HT : Hid (R = if s[m].toNat = 34 then (if acc.length > 4096 then .bad 6 else .good 4 acc 0 (s.data.toList.drop (m + 1))) else if s[m].toNat = 92 then (match Tk.esc (s.data.toList.drop (m + 1)) with
        | .bad e => .bad e
        | .good d r' => Tk.lit f r' (acc ++ [d])) else if s[m].toNat < 32 ∨ s[m].toNat > 126 then .bad 3 else Tk.lit f (s.data.toList.drop (m + 1)) (acc ++ [s[m]])) := by
        show _ = _
        rw [← HF.out.1, drop_get s m hlt]; rfl
      have hcn := (s[m]).toNat_lt
      have HDL := hid (drop_len s (m + 1))
      clear HF HF2
      obtain ⟨A, cc, hv5⟩ := (OwnB.bs HO.out).form
      subst hv5
      by_cases h34 : s[m].toNat = 34
      · have i34 : (s[m].toNat : Int) = 34 := by omega
        rw [if_pos h34] at HT
        by_cases h4096 : acc.length > 4096
        · rw [if_pos h4096] at HT
          have i1 : (4096 : Int) < (acc.length : Int) := by omega
          go_wp2_with fail
          go_ret3
          rw [HT.out]
          exact ⟨rfl, HB.out⟩
        · rw [if_neg h4096] at HT
          have i1 : ¬ (4096 : Int) < (acc.length : Int) := by omega
          have hcv := (OwnB.bs HO.out).conv
          unfold strOf at hcv
          have HE : Hid ((s.size : Int) - ((s.data.toList.drop (m + 1)).length : Int) = (m : Int) + 1) := by show _ = _; rw [HDL.out]; omega
          go_wp2_with fail
          go_ret3
          rw [HT.out]
          refine ⟨?_, HB.out⟩
          simp only [litV, HE.out]
          rfl
      rw [if_neg h34] at HT
      have i34 : ¬ (s[m].toNat : Int) = 34 := by omega
      by_cases h92 : s[m].toNat = 92
      · have i92 : (s[m].toNat : Int) = 92 := by omega
        rw [if_pos h92] at HT
        clear i34
        by_cases hlt1 : m + 1 < s.size
        · have HE1 : Hid (s.data.toList.drop (m + 1) = s[m + 1] :: s.data.toList.drop (m + 1 + 1)) := drop_get s (m + 1) hlt1
          rw [HE1.out] at HT
          have hl1 : ¬ ((s.size : Int) ≤ (m : Int) + 1) := by omega
          have hdn := (s[m + 1]).toNat_lt
          have ht1 : ((m : Int) + 1).toNat = m + 1 := by omega
          by_cases g34 : s[m + 1].toNat = 34
          · rw [Tk.esc_qc (.inl g34)] at HT
            have k34 : (s[m + 1].toNat : Int) = 34 := by omega
            have HT3 : Hid (Tk.lit f (s.data.toList.drop (m + 1 + 1)) (acc ++ [s[m + 1]]) = R) := by show _ = _; rw [HT.out]
            go_wp2_with (first | (at_builtin; refine wpList_app8 rfl (.tmp 52) (.tmp 57) rfl w.heap.size _ acc 34 s[m + 1] (by unfold by8; rw [k34]) rfl HO.out rfl (by omega) hbs ?_; intro v' w' hown' hb'))
            refine ⟨⟨m + 1 + 1, acc ++ [s[m + 1]], f, by omega, by go_num, hown', HB.out.trans hb', ⟨HT3.out, by have := HF3.out; omega⟩, by simp only [List.length_append, List.length_singleton]; omega⟩, ?_⟩
            simp [intOf]; omega
          have k34 : ¬ (s[m + 1].toNat : Int) = 34 := by omega
          by_cases g92 : s[m + 1].toNat = 92
          · rw [Tk.esc_qc (.inr g92)] at HT
            have k92 : (s[m + 1].toNat : Int) = 92 := by omega
            clear k34
            have HT3 : Hid (Tk.lit f (s.data.toList.drop (m + 1 + 1)) (acc ++ [s[m + 1]]) = R) := by show _ = _; rw [HT.out]
            go_wp2_with (first | (at_builtin; refine wpList_app8 rfl (.tmp 52) (.tmp 57) rfl w.heap.size _ acc 92 s[m + 1] (by unfold by8; rw [k92]) rfl HO.out rfl (by omega) hbs ?_; intro v' w' hown' hb'))
            refine ⟨⟨m + 1 + 1, acc ++ [s[m + 1]], f, by omega, by go_num, hown', HB.out.trans hb', ⟨HT3.out, by have := HF3.out; omega⟩, by simp only [List.length_append, List.length_singleton]; omega⟩, ?_⟩
            simp [intOf]; omega
          have k92 : ¬ (s[m + 1].toNat : Int) = 92 := by omega
          have HES : Hid (Tk.esc (s[m + 1] :: s.data.toList.drop (m + 1 + 1)) = if s[m + 1].toNat = 34 ∨ s[m + 1].toNat = 92 then .good s[m + 1] (s.data.toList.drop (m + 1 + 1)) else if s[m + 1].toNat = 110 then .good 10 (s.data.toList.drop (m + 1 + 1)) else if s[m + 1].toNat = 116 then .good 9 (s.data.toList.drop (m + 1 + 1)) else if s[m + 1].toNat = 120 then Tk.code (s.data.toList.drop (m + 1 + 1)) else .bad 3) := rfl
          rw [if_neg (by omega)] at HES
          by_cases g110 : s[m + 1].toNat = 110
          · rw [if_pos g110] at HES
            rw [HES.out] at HT
            have k110 : (s[m + 1].toNat : Int) = 110 := by omega
            clear k34 k92
            have HT3 : Hid (Tk.lit f (s.data.toList.drop (m + 1 + 1)) (acc ++ [10]) = R) := by show _ = _; rw [HT.out]
            go_wp2_with (first | (at_builtin; refine wpList_app8 rfl (.tmp 63) (.tmp 64) rfl w.heap.size _ acc 10 10 rfl rfl HO.out rfl (by omega) hbs ?_; intro v' w' hown' hb'))
            refine ⟨⟨m + 1 + 1, acc ++ [10], f, by omega, by go_num, hown', HB.out.trans hb', ⟨HT3.out, by have := HF3.out; omega⟩, by simp only [List.length_append, List.length_singleton]; omega⟩, ?_⟩
            simp [intOf]; omega
          have k110 : ¬ (s[m + 1].toNat : Int) = 110 := by omega
          rw [if_neg g110] at HES
          by_cases g116 : s[m + 1].toNat = 116
          · rw [if_pos g116] at HES
            rw [HES.out] at HT
            have k116 : (s[m + 1].toNat : Int) = 116 := by omega
            clear k34 k92 k110
            have HT3 : Hid (Tk.lit f (s.data.toList.drop (m + 1 + 1)) (acc ++ [9]) = R) := by show _ = _; rw [HT.out]
            go_wp2_with (first | (at_builtin; refine wpList_app8 rfl (.tmp 70) (.tmp 71) rfl w.heap.size _ acc 9 9 rfl rfl HO.out rfl (by omega) hbs ?_; intro v' w' hown' hb'))
            refine ⟨⟨m + 1 + 1, acc ++ [9], f, by omega, by go_num, hown', HB.out.trans hb', ⟨HT3.out, by have := HF3.out; omega⟩, by simp only [List.length_append, List.length_singleton]; omega⟩, ?_⟩
            simp [intOf]; omega
          have k116 : ¬ (s[m + 1].toNat : Int) = 116 := by omega
          rw [if_neg g116] at HES
          by_cases g120 : s[m + 1].toNat = 120
          · rw [if_pos g120] at HES
            have k120 : (s[m + 1].toNat : Int) = 120 := by omega
            clear k34 k92 k110 k116
            have hr3 := hid (drop_len s (m + 1 + 1))
            by_cases hlt2 : m + 1 + 1 < s.size
            · have HE2 : Hid (s.data.toList.drop (m + 1 + 1) = s[m + 1 + 1] :: s.data.toList.drop (m + 1 + 1 + 1)) := drop_get s (m + 1 + 1) hlt2
              have CX := hid (HX.out (m + 1 + 1) hlt2)
              have hx15 := hex_hi s[m + 1 + 1]
              have hl2 : ¬ ((s.size : Int) ≤ (m : Int) + 2) := by omega
              have ht2 : ((m : Int) + 2).toNat = m + 1 + 1 := by omega
              by_cases hxn : Tk.hexv s[m + 1 + 1] < 0
              · have HT3 : Hid (R = .bad 3) := by
                  show _ = _
                  rw [HT.out, HES.out, HE2.out]
                  unfold Tk.code
                  simp only []
                  rw [if_pos hxn]
                generalize Tk.hexv s[m + 1 + 1] = x at *
                go_wp2_with fail
                refine wp_loop_rounds 1 ?_
                rw [rounds_succ]
                go_wp2_with (go_at_call 51; refine (CX.out _).mono ?_; rintro e w' ⟨rfl, rfl⟩)
                go_ret3
                rw [HT3.out]
                exact ⟨rfl, HB.out⟩
              · have hx0 : 0 ≤ Tk.hexv s[m + 1 + 1] := by omega
                by_cases hlt3 : m + 1 + 1 + 1 < s.size
                · have HE3 : Hid (s.data.toList.drop (m + 1 + 1 + 1) = s[m + 1 + 1 + 1] :: s.data.toList.drop (m + 1 + 1 + 1 + 1)) := drop_get s (m + 1 + 1 + 1) hlt3
                  have CY := hid (HX.out (m + 1 + 1 + 1) hlt3)
                  have hy15 := hex_hi s[m + 1 + 1 + 1]
                  have hl3 : ¬ ((s.size : Int) ≤ (m : Int) + 3) := by omega
                  have ht3 : ((m : Int) + 3).toNat = m + 1 + 1 + 1 := by omega
                  by_cases hyn : Tk.hexv s[m + 1 + 1 + 1] < 0
                  · have HT3 : Hid (R = .bad 3) := by
                      show _ = _
                      rw [HT.out, HES.out, HE2.out, HE3.out]
                      unfold Tk.code
                      simp only []
                      rw [if_neg hxn, if_pos hyn]
                    clear hxn
                    generalize Tk.hexv s[m + 1 + 1] = x at *
                    generalize Tk.hexv s[m + 1 + 1 + 1] = y at *
                    go_wp2_with fail
                    refine wp_loop_rounds 2 ?_
                    rw [rounds_succ]
                    go_wp2_with (go_at_call 51; refine (CX.out _).mono ?_; rintro e w' ⟨rfl, rfl⟩)
                    rw [rounds_succ]
                    go_wp2_with (go_at_call 51; refine (CY.out _).mono ?_; rintro e w' ⟨rfl, rfl⟩)
                    go_ret3
                    rw [HT3.out]
                    exact ⟨rfl, HB.out⟩
                  · have hy0 : 0 ≤ Tk.hexv s[m + 1 + 1 + 1] := by omega
                    have HT3 : Hid (Tk.lit f (s.data.toList.drop (m + 1 + 1 + 1 + 1)) (acc ++ [UInt8.ofNat (16 * Tk.hexv s[m + 1 + 1] + Tk.hexv s[m + 1 + 1 + 1]).toNat]) = R) := by
                      show _ = _
                      rw [HT.out, HES.out, HE2.out, HE3.out]
                      unfold Tk.code
                      simp only []
                      rw [if_neg hxn, if_neg hyn]
                    clear hxn hyn
                    generalize Tk.hexv s[m + 1 + 1] = x at *
                    generalize Tk.hexv s[m + 1 + 1 + 1] = y at *
                    have hxy : 16 * x + y ≤ 255 := by omega
                    have hxy0 : 0 ≤ 16 * x + y := by omega
                    have H8 : Hid (Value.int .u8 (16 * x + y) = by8 (UInt8.ofNat (16 * x + y).toNat)) := by
                      show _ = _
                      unfold by8
                      rw [UInt8.toNat_ofNat', show (((16 * x + y).toNat % 2 ^ 8 : Nat) : Int) = 16 * x + y by simp only [Nat.reducePow]; omega]
                    go_wp2_with fail
                    refine wp_loop_rounds 3 ?_
                    rw [rounds_succ]
                    go_wp2_with (go_at_call 51; refine (CX.out _).mono ?_; rintro e w' ⟨rfl, rfl⟩)
                    rw [rounds_succ]
                    go_wp2_with (go_at_call 51; refine (CY.out _).mono ?_; rintro e w' ⟨rfl, rfl⟩)
                    rw [rounds_succ]
                    go_wp2_with (at_builtin; refine wpList_app8 rfl (.tmp 103) (.tmp 106) rfl w.heap.size _ acc _ (UInt8.ofNat (16 * x + y).toNat) H8.out rfl HO.out rfl (by omega) hbs ?_; intro v' w' hown' hb')
                    refine ⟨⟨m + 1 + 1 + 1 + 1, acc ++ [UInt8.ofNat (16 * x + y).toNat], f, by omega, by go_num, hown', HB.out.trans hb', ⟨HT3.out, by have := HF3.out; omega⟩, by simp only [List.length_append, List.length_singleton]; omega⟩, ?_⟩
                    simp [intOf]; omega
                · have HE3 : Hid (s.data.toList.drop (m + 1 + 1 + 1) = []) := drop_end s (m + 1 + 1 + 1) (by omega)
                  have hl3 : ((s.size : Int) ≤ (m : Int) + 3) := by omega
                  have HT3 : Hid (R = .bad 4) := by
                    show _ = _
                    rw [HT.out, HES.out, HE2.out, HE3.out]
                    unfold Tk.code
                    simp only []
                    rw [if_neg hxn]
                  clear hxn
                  generalize Tk.hexv s[m + 1 + 1] = x at *
                  go_wp2_with fail
                  refine wp_loop_rounds 2 ?_
                  rw [rounds_succ]
                  go_wp2_with (go_at_call 51; refine (CX.out _).mono ?_; rintro e w' ⟨rfl, rfl⟩)
                  rw [rounds_succ]
                  go_wp2_with fail
                  go_ret3
                  rw [HT3.out]
                  exact ⟨rfl, HB.out⟩
            · have HE2 : Hid (s.data.toList.drop (m + 1 + 1) = []) := drop_end s (m + 1 + 1) (by omega)
              have hl2 : ((s.size : Int) ≤ (m : Int) + 2) := by omega
              have HT3 : Hid (R = .bad 4) := by
                show _ = _
                rw [HT.out, HES.out, HE2.out]; rfl
              go_wp2_with fail
              refine wp_loop_rounds 1 ?_
              rw [rounds_succ]
              go_wp2_with fail
              go_ret3
              rw [HT3.out]
              exact ⟨rfl, HB.out⟩
          · rw [if_neg g120] at HES
            rw [HES.out] at HT
            have k120 : ¬ (s[m + 1].toNat : Int) = 120 := by omega
            go_wp2_with fail
            go_ret3
            rw [HT.out]
            exact ⟨rfl, HB.out⟩
        · have HE1 : Hid (s.data.toList.drop (m + 1) = []) := drop_end s (m + 1) (by omega)
          rw [HE1.out] at HT
          have hl1 : (s.size : Int) ≤ (m : Int) + 1 := by omega
          go_wp2_with fail
          go_ret3
          rw [HT.out]
          exact ⟨rfl, HB.out⟩
      · rw [if_neg h92] at HT
        have i92 : ((s[m].toNat : Int) != 92) = true := by simp; omega
        by_cases hr : s[m].toNat < 32 ∨ s[m].toNat > 126
        · rw [if_pos hr] at HT
          rcases (by omega : (s[m].toNat : Int) < 32 ∨ (¬ (s[m].toNat : Int) < 32 ∧ (126 : Int) < (s[m].toNat : Int))) with j1 | ⟨j1, j2⟩
          · clear hr
            go_wp2_with fail
            go_ret3
            rw [HT.out]
            exact ⟨rfl, HB.out⟩
          · clear hr
            go_wp2_with fail
            go_ret3
            rw [HT.out]
            exact ⟨rfl, HB.out⟩
        · rw [if_neg hr] at HT
          have j1 : ¬ (s[m].toNat : Int) < 32 := by omega
          have j2 : ¬ (126 : Int) < (s[m].toNat : Int) := by omega
          clear hr
          have HT3 : Hid (Tk.lit f (s.data.toList.drop (m + 1)) (acc ++ [s[m]]) = R) := by show _ = _; rw [HT.out]
          go_wp2_with (first | (at_builtin; refine wpList_app8 rfl (.tmp 34) (.tmp 36) rfl w.heap.size _ acc _ s[m] rfl rfl HO.out rfl (by omega) hbs ?_; intro v' w' hown' hb'))
          refine ⟨⟨m + 1, acc ++ [s[m]], f, by omega, by go_num, hown', HB.out.trans hb', ⟨HT3.out, by have := HF3.out; omega⟩, by simp only [List.length_append, List.length_singleton]; omega⟩, ?_⟩
          simp [intOf]; omega
    · have HT : Hid (R = .bad 4) := by show _ = _; rw [← HF.out.1, drop_end s m (by omega), lit_nil]
      have hlt' : ¬ ((m : Int) < (s.size : Int)) := by omega
      go_wp2_with fail
      go_ret3
      rw [HT.out]
      exact ⟨rfl, HB.out⟩
end Go.Proofs.YtodcgdiejmdaaaaDoor
