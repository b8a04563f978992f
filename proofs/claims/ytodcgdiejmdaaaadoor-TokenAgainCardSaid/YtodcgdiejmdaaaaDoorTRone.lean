/-
  One token of the reference, by its contract.
-/
import Derived.Test.YtodcgdiejmdaaaaDoorTRlit
import Derived.Test.YtodcgdiejmdaaaaDoorTSgn
import Derived.Test.YtodcgdiejmdaaaaDoorTOffs
namespace Go.Proofs.YtodcgdiejmdaaaaDoor
open Go.RowKit

/-- What one leaves. -/
def oneV (N : Nat) (r : Tk.TR) : Value := match r with
  | .bad c => .tuple #[tokV 0 0 [] 0, .int .i64 0, .int .i64 c]
  | .good k t n l => .tuple #[tokV k 0 t n, .int .i64 ((N : Int) - l.length), .int .i64 0]
theorem bel1 {B z i : Nat} {w W : World} {u : Value} (hX : Below B w W) (hz : B ≤ z) : Below B w (W.setCell ⟨z, i, none⟩ u) :=
  ⟨hX.os, hX.tape, hX.output, by simpa [World.setCell] using hX.size, fun k hk => (Below.heap_setCell W ⟨z, i, none⟩ u k (fun e => by have : k = z := e; omega)).trans (hX.block k hk)⟩
theorem bel4 {B z : Nat} {w W : World} {u0 u1 u2 u3 : Value} (h : Below B w W) (hz : B ≤ z) :
    Below B w ((((W.setCell ⟨z, 0, none⟩ u0).setCell ⟨z, 1, none⟩ u1).setCell ⟨z, 2, none⟩ u2).setCell ⟨z, 3, none⟩ u3) :=
  bel1 (bel1 (bel1 (bel1 h hz) hz) hz) hz
theorem two_at (w : World) (o : Obj) : ((w.alloc zTok).alloc o).heap[w.heap.size + 1]? = some o := by
  show ((w.heap.push zTok).push o)[w.heap.size + 1]? = _
  rw [Array.getElem?_push, if_pos (by simp)]
theorem head_get (s : ByteArray) (c : UInt8) (r : List UInt8) (hl : s.data.toList = c :: r) : ∃ h : 0 < s.size, s[0] = c := by
  have hlen : s.data.toList.length = s.size := by simp
  rw [hl, List.length_cons] at hlen
  refine ⟨by omega, ?_⟩
  have h1 : s.data.toList[0]? = some c := by rw [hl]; rfl
  obtain ⟨_, h2⟩ := List.getElem?_eq_some_iff.1 h1
  rw [← h2]; rfl
theorem lit_ok {f : Nat} {l acc : List UInt8} {k : Int} {t : List UInt8} {n : Int} {r : List UInt8} (h : Tk.lit f l acc = .good k t n r) : k = 4 ∧ n = 0 := (Tk.lit_len f l acc h).2

set_option maxRecDepth 100000 in
set_option maxHeartbeats 8000000 in
theorem rone_any (s : ByteArray) (c : UInt8) (r : List UInt8) (w : World) (hl : s.data.toList = c :: r) (hs : s.size ≤ 16384) :
    Calls Tryd.prog 24 #[.string s] w fun e w' => e = .returned (oneV s.size (Tk.tok (c :: r))) ∧ Below w.heap.size w w' := by
  have hlen : s.data.toList.length = s.size := by simp
  obtain ⟨h0, hc0⟩ := head_get s c r hl
  have HD := hid (fun (k : Nat) (h : k < s.size) W => rdigit_any s[k] W)
  have HLt := hid (fun (k : Nat) (h : k < s.size) W => rletter_any s[k] W)
  have HZ : Hid ((w.alloc zTok).heap[w.heap.size]? = some zTok) := zalloc w
  have HBZ : Hid (Below w.heap.size w (w.alloc zTok)) := (Below.refl _ _).alloc (Nat.le_refl _) _
  have HT : Hid (Tk.tok (c :: r) = if Tk.letter c then Tk.wordT (c :: r) else if Tk.digit c then Tk.num (c :: r) else if c.toNat = 34 then Tk.lit r.length r [] else Tk.sgn c r) := rfl
  generalize Tk.tok (c :: r) = R at *
  have hcn := c.toNat_lt
  have CL := hid (fun W => rletter_any c W)
  have CD := hid (fun W => rdigit_any c W)
  cases hlx : Tk.letter c with
  | true =>
    rw [hlx] at CL HT
    rw [if_pos rfl, ← hl] at HT
    obtain ⟨D, hD⟩ : ∃ D, D = (s.data.toList.takeWhile Tk.wordc).length := ⟨_, rfl⟩
    have hgl : Hid (∀ (k : Nat) (h : k < s.size), s.data.toList[k]'(by rw [hlen]; exact h) = s[k]) := fun k h => rfl
    have hDn : D ≤ s.size := by rw [hD, ← hlen]; exact Tk.tw_len _ _
    have hD1 : Hid (∀ (k : Nat) (h : k < s.size), k < D → Tk.wordc s[k] = true) := fun k h hk => by
      rw [← hgl.out k h]; exact Tk.tw_get _ _ k (by rw [hlen]; exact h) (by rw [← hD]; exact hk)
    have hD2 : Hid (∀ (h : D < s.size), Tk.wordc s[D] = false) := fun h => by
      subst hD
      rw [← hgl.out _ h]
      exact Tk.tw_end Tk.wordc s.data.toList (by rw [hlen]; exact h)
    have HT2 : Hid (R = if D > 64 then .bad 8 else .good (if Tk.kw (s.data.toList.take D) then 2 else 1) (s.data.toList.take D) 0 (s.data.toList.drop D)) := by
      show _ = _
      rw [HT.out]
      unfold Tk.wordT
      simp only []
      rw [Tk.tw_take Tk.wordc s.data.toList, Tk.tw_drop Tk.wordc s.data.toList, ← hD, List.length_take, hlen, Nat.min_eq_left hDn]
    have HE : Hid ((s.size : Int) - ((s.data.toList.drop D).length : Int) = (D : Int)) := by
      show _ = _
      rw [drop_len]; omega
    have hex : s.extract 0 D = ⟨(s.data.toList.take D).toArray⟩ := by rw [extract_mk]; simp
    have CK := hid (fun W => rkw_any (s.data.toList.take D) W)
    clear hD HT hl
    go_enter Tryd.func24, Tryd.ntmps24
    go_wp2_with (go_at_call 37; refine (CL.out _).mono ?_; rintro e w' ⟨rfl, rfl⟩)
    go_loop [6] (fun v6 => ∃ k : Nat, k ≤ D ∧ v6 = .int .i64 (k : Int)) (fun v6 => D - (intOf v6).toNat)
    case atStart => exact ⟨0, Nat.zero_le _, rfl⟩
    case round =>
      obtain ⟨k, hk, rfl⟩ := hrel
      by_cases hlt : k < D
      · have hks : k < s.size := by omega
        have hw := hD1.out k hks hlt
        unfold Tk.wordc at hw
        have C1 := hid (HLt.out k hks)
        have C2 := hid (HD.out k hks)
        cases hlk : Tk.letter s[k] with
        | true =>
          rw [hlk] at C1
          go_wp2_with (go_at_call 37; refine (C1.out _).mono ?_; rintro e w' ⟨rfl, rfl⟩)
          refine ⟨⟨k + 1, by omega, by go_num⟩, ?_⟩
          simp [intOf]; omega
        | false =>
          rw [hlk] at C1 hw
          rw [show Tk.digit s[k] = true by simpa using hw] at C2
          clear hw
          go_wp2_with (first | (go_at_call 37; refine (C1.out _).mono ?_; rintro e w' ⟨rfl, rfl⟩) | (go_at_call 38; refine (C2.out _).mono ?_; rintro e w' ⟨rfl, rfl⟩))
          refine ⟨⟨k + 1, by omega, by go_num⟩, ?_⟩
          simp [intOf]; omega
      · have hkD : k = D := by omega
        subst hkD
        rcases (by omega : k < s.size ∨ k = s.size) with hx | hx
        · have C1 := hid (HLt.out k hx)
          have C2 := hid (HD.out k hx)
          have hw := hD2.out hx
          unfold Tk.wordc at hw
          rw [Bool.or_eq_false_iff] at hw
          rw [hw.1] at C1
          rw [hw.2] at C2
          have hx' : (k : Int) < (s.size : Int) := by omega
          clear hw
          by_cases h64 : k > 64
          · rw [if_pos h64] at HT2
            have h64' : (64 : Int) < (k : Int) := by omega
            go_wp2_with (first | (go_at_call 37; refine (C1.out _).mono ?_; rintro e w' ⟨rfl, rfl⟩) | (go_at_call 38; refine (C2.out _).mono ?_; rintro e w' ⟨rfl, rfl⟩))
            refine bodyPost_ret (v := .tuple #[tokV 0 0 [] 0, .int .i64 0, .int .i64 8]) (by simp [results, Tryd.results24, go_sem, tokV, byS]) rfl ?_
            rw [HT2.out]
            exact ⟨rfl, (Below.refl _ _).alloc (Nat.le_refl _) _⟩
          · rw [if_neg h64] at HT2
            have h64' : ¬ (64 : Int) < (k : Int) := by omega
            have hkb : (k : Int) ≤ (s.size : Int) := by omega
            have htk : ((k : Int)).toNat = k := by omega
            go_wp2_with (first | (go_at_call 37; refine (C1.out _).mono ?_; rintro e w' ⟨rfl, rfl⟩) | (go_at_call 38; refine (C2.out _).mono ?_; rintro e w' ⟨rfl, rfl⟩))
            refine (CK.out _).mono ?_
            rintro e w5 ⟨rfl, hb5⟩
            have hz5 : w5.heap[w.heap.size]? = some zTok := zstep (w := (w.alloc zTok).alloc (.cells #[.int .i64 1, .int .i64 0, .string ⟨(s.data.toList.take k).toArray⟩, .int .i64 0] 30)) (zstep HZ.out ((Below.refl _ _).alloc (Nat.le_refl _) _)) hb5
            have hy5 : w5.heap[w.heap.size + 1]? = some (.cells #[.int .i64 1, .int .i64 0, .string ⟨(s.data.toList.take k).toArray⟩, .int .i64 0] 30 (0, 0)) := (hb5.block (w.heap.size + 1) (by simp)).trans (two_at w _)
            have HB5 : Hid (Below w.heap.size w w5) := (HBZ.out.alloc HBZ.out.size _).trans (hb5.mono (by simp; omega))
            obtain ⟨b0, b1, b2, b3⟩ := zcells hz5
            have f0 := zfree hz5 0
            have f1 := zfree hz5 1
            have f2 := zfree hz5 2
            have f3 := zfree hz5 3

            have y0 := cellAt hy5 0
            have y1 := cellAt hy5 1
            have y2 := cellAt hy5 2
            have y3 := cellAt hy5 3
            have g0 := freeAt hy5 0
            simp only [List.getElem?_toArray, List.getElem?_cons_zero, List.getElem?_cons_succ] at y0 y1 y2 y3
            clear hz5 hy5 hb5
            cases hkw : Tk.kw (s.data.toList.take k) with
            | true =>
              rw [hkw, if_pos rfl] at HT2
              go_wp2_with fail
              refine bodyPost_ret (v := .tuple #[tokV 2 0 (s.data.toList.take k) 0, .int .i64 (k : Int), .int .i64 0]) (by simp [results, Tryd.results24, go_sem, tokV, byS, b0, b1, b2, b3]) rfl ?_
              rw [HT2.out]
              refine ⟨?_, bel4 (bel1 HB5.out (by omega)) (Nat.le_refl _)⟩
              simp only [oneV, HE.out]
            | false =>
              rw [hkw, if_neg (by simp)] at HT2
              go_wp2_with fail
              refine bodyPost_ret (v := .tuple #[tokV 1 0 (s.data.toList.take k) 0, .int .i64 (k : Int), .int .i64 0]) (by simp [results, Tryd.results24, go_sem, tokV, byS, b0, b1, b2, b3]) rfl ?_
              rw [HT2.out]
              refine ⟨?_, bel4 HB5.out (Nat.le_refl _)⟩
              simp only [oneV, HE.out]
        · have hx' : ¬ (k : Int) < (s.size : Int) := by omega
          clear hx
          by_cases h64 : k > 64
          · rw [if_pos h64] at HT2
            have h64' : (64 : Int) < (k : Int) := by omega
            go_wp2_with fail
            refine bodyPost_ret (v := .tuple #[tokV 0 0 [] 0, .int .i64 0, .int .i64 8]) (by simp [results, Tryd.results24, go_sem, tokV, byS]) rfl ?_
            rw [HT2.out]
            exact ⟨rfl, (Below.refl _ _).alloc (Nat.le_refl _) _⟩
          · rw [if_neg h64] at HT2
            have h64' : ¬ (64 : Int) < (k : Int) := by omega
            have hkb : (k : Int) ≤ (s.size : Int) := by omega
            have htk : ((k : Int)).toNat = k := by omega
            go_wp2_with fail
            refine (CK.out _).mono ?_
            rintro e w5 ⟨rfl, hb5⟩
            have hz5 : w5.heap[w.heap.size]? = some zTok := zstep (w := (w.alloc zTok).alloc (.cells #[.int .i64 1, .int .i64 0, .string ⟨(s.data.toList.take k).toArray⟩, .int .i64 0] 30)) (zstep HZ.out ((Below.refl _ _).alloc (Nat.le_refl _) _)) hb5
            have hy5 : w5.heap[w.heap.size + 1]? = some (.cells #[.int .i64 1, .int .i64 0, .string ⟨(s.data.toList.take k).toArray⟩, .int .i64 0] 30 (0, 0)) := (hb5.block (w.heap.size + 1) (by simp)).trans (two_at w _)
            have HB5 : Hid (Below w.heap.size w w5) := (HBZ.out.alloc HBZ.out.size _).trans (hb5.mono (by simp; omega))
            obtain ⟨b0, b1, b2, b3⟩ := zcells hz5
            have f0 := zfree hz5 0
            have f1 := zfree hz5 1
            have f2 := zfree hz5 2
            have f3 := zfree hz5 3

            have y0 := cellAt hy5 0
            have y1 := cellAt hy5 1
            have y2 := cellAt hy5 2
            have y3 := cellAt hy5 3
            have g0 := freeAt hy5 0
            simp only [List.getElem?_toArray, List.getElem?_cons_zero, List.getElem?_cons_succ] at y0 y1 y2 y3
            clear hz5 hy5 hb5
            cases hkw : Tk.kw (s.data.toList.take k) with
            | true =>
              rw [hkw, if_pos rfl] at HT2
              go_wp2_with fail
              refine bodyPost_ret (v := .tuple #[tokV 2 0 (s.data.toList.take k) 0, .int .i64 (k : Int), .int .i64 0]) (by simp [results, Tryd.results24, go_sem, tokV, byS, b0, b1, b2, b3]) rfl ?_
              rw [HT2.out]
              refine ⟨?_, bel4 (bel1 HB5.out (by omega)) (Nat.le_refl _)⟩
              simp only [oneV, HE.out]
            | false =>
              rw [hkw, if_neg (by simp)] at HT2
              go_wp2_with fail
              refine bodyPost_ret (v := .tuple #[tokV 1 0 (s.data.toList.take k) 0, .int .i64 (k : Int), .int .i64 0]) (by simp [results, Tryd.results24, go_sem, tokV, byS, b0, b1, b2, b3]) rfl ?_
              rw [HT2.out]
              refine ⟨?_, bel4 HB5.out (Nat.le_refl _)⟩
              simp only [oneV, HE.out]
  | false =>
    rw [hlx] at CL HT
    rw [if_neg (by simp)] at HT
    cases hdx : Tk.digit c with
    | true =>
      rw [hdx] at CD HT
      rw [if_pos rfl, ← hl] at HT
      have CN := hid (fun W => rnumber_any s W h0 hs (by rw [hc0]; exact hdx))
      cases hR : Tk.num s.data.toList with
      | bad k =>
        rw [hR] at CN HT
        have hk0 : (k != 0) = true := by
          have : Tk.tok (c :: r) = .bad k := by rw [Tk.tok_cons, if_neg (by rw [hlx]; simp), if_pos hdx, ← hl, hR]
          simpa using Tk.tok_ne this
        simp only [numV] at CN
        clear hR hl
        go_enter Tryd.func24, Tryd.ntmps24
        go_wp2_with (first | (go_at_call 37; refine (CL.out _).mono ?_; rintro e w' ⟨rfl, rfl⟩) | (go_at_call 38; refine (CD.out _).mono ?_; rintro e w' ⟨rfl, rfl⟩) | (go_at_call 39; refine (CN.out _).mono ?_; rintro e w' ⟨rfl, rfl⟩))
        refine bodyPost_ret (v := .tuple #[tokV 0 0 [] 0, .int .i64 0, .int .i64 k]) (by simp [results, Tryd.results24, go_sem, tokV, byS]) rfl ?_
        rw [HT.out]
        exact ⟨rfl, (Below.refl _ _).alloc (Nat.le_refl _) _⟩
      | good k tt n l2 =>
        have hnm : k = 3 ∧ tt = [] := by
          unfold Tk.num at hR
          simp only [] at hR
          split at hR
          · cases hR
          · split at hR
            · cases hR
            · cases hR; exact ⟨rfl, rfl⟩
        obtain ⟨rfl, rfl⟩ := hnm
        rw [hR] at CN HT
        simp only [numV] at CN
        generalize hLL : (s.size : Int) - (l2.length : Int) = LL at *
        have HLL := hid hLL
        clear hR hl hLL
        go_enter Tryd.func24, Tryd.ntmps24
        go_wp2_with (first | (go_at_call 37; refine (CL.out _).mono ?_; rintro e w' ⟨rfl, rfl⟩) | (go_at_call 38; refine (CD.out _).mono ?_; rintro e w' ⟨rfl, rfl⟩) | (go_at_call 39; refine (CN.out _).mono ?_; rintro e w' ⟨rfl, rfl⟩))
        refine bodyPost_ret (v := .tuple #[tokV 3 0 [] n, .int .i64 LL, .int .i64 0]) (by simp [results, Tryd.results24, go_sem, tokV, byS]) rfl ?_
        rw [HT.out]
        refine ⟨?_, (Below.refl _ _).alloc (Nat.le_refl _) _⟩
        simp only [oneV, HLL.out]
    | false =>
      rw [hdx] at CD HT
      rw [if_neg (by simp)] at HT
      by_cases h34 : c.toNat = 34
      · rw [if_pos h34] at HT
        have b34 : ((c.toNat : Int) == 34) = true := by simp; omega
        have CN := hid (fun W => rliteral_any s c r W hl hs)
        cases hR : Tk.lit r.length r [] with
        | bad k =>
          rw [hR] at CN HT
          have hk0 : (k != 0) = true := by simpa using Tk.lit_bad _ _ _ hR
          simp only [litV] at CN
          clear hR hl h34
          go_enter Tryd.func24, Tryd.ntmps24
          go_wp2_with (first | (go_at_call 37; refine (CL.out _).mono ?_; rintro e w' ⟨rfl, rfl⟩) | (go_at_call 38; refine (CD.out _).mono ?_; rintro e w' ⟨rfl, rfl⟩))
          refine (CN.out _).mono ?_
          rintro e w5 ⟨rfl, hb5⟩
          have hz5 := zstep HZ.out hb5
          have HB5 : Hid (Below w.heap.size w w5) := HBZ.out.trans (hb5.mono HBZ.out.size)
          obtain ⟨b0, b1, b2, b3⟩ := zcells hz5
          have f0 := zfree hz5 0
          have f1 := zfree hz5 1
          have f2 := zfree hz5 2
          have f3 := zfree hz5 3
          clear hz5 hb5
          go_wp2_with fail
          refine bodyPost_ret (v := .tuple #[tokV 0 0 [] 0, .int .i64 0, .int .i64 k]) (by simp [results, Tryd.results24, go_sem, tokV, byS, b0, b1, b2, b3]) rfl ?_
          rw [HT.out]
          exact ⟨rfl, bel4 HB5.out (Nat.le_refl _)⟩
        | good k tt n l2 =>
          obtain ⟨rfl, rfl⟩ := lit_ok hR
          rw [hR] at CN HT
          simp only [litV] at CN
          generalize hLL : (s.size : Int) - (l2.length : Int) = LL at *
          have HLL := hid hLL
          clear hR hl hLL h34
          go_enter Tryd.func24, Tryd.ntmps24
          go_wp2_with (first | (go_at_call 37; refine (CL.out _).mono ?_; rintro e w' ⟨rfl, rfl⟩) | (go_at_call 38; refine (CD.out _).mono ?_; rintro e w' ⟨rfl, rfl⟩))
          refine (CN.out _).mono ?_
          rintro e w5 ⟨rfl, hb5⟩
          have hz5 := zstep HZ.out hb5
          have HB5 : Hid (Below w.heap.size w w5) := HBZ.out.trans (hb5.mono HBZ.out.size)
          obtain ⟨b0, b1, b2, b3⟩ := zcells hz5
          have f0 := zfree hz5 0
          have f1 := zfree hz5 1
          have f2 := zfree hz5 2
          have f3 := zfree hz5 3
          clear hz5 hb5
          go_wp2_with fail
          refine bodyPost_ret (v := .tuple #[tokV 4 0 tt 0, .int .i64 LL, .int .i64 0]) (by simp [results, Tryd.results24, go_sem, tokV, byS, b0, b1, b2, b3]) rfl ?_
          rw [HT.out]
          refine ⟨?_, bel4 HB5.out (Nat.le_refl _)⟩
          simp only [oneV, HLL.out]
      · rw [if_neg h34] at HT
        have i34 : ¬ (c.toNat : Int) = 34 := by omega
        have CS := hid (signs_any (w.alloc zTok))
        have hsz : (w.alloc zTok).heap.size = w.heap.size + 1 := by simp
        rw [hsz] at CS
        have h22 : sgs.length = 22 := rfl
        have HPF := hid (fun h => sgn_none (c := c) (r := r) h)
        have HPG := hid (fun (i : Nat) (x : List UInt8) (hx : sgs[i]? = some x) h hp => sgn_first (c := c) (r := r) hx h hp)
        have HLC : Hid (s.data.toList = c :: r) := hl
        have hlr : (c :: r).length = s.size := by rw [← hl]; exact hlen
        generalize sgs = sg at *
        generalize Tk.sgn c r = R2 at *
        clear hl
        go_enter Tryd.func24, Tryd.ntmps24
        go_wp2_with (first | (go_at_call 37; refine (CL.out _).mono ?_; rintro e w' ⟨rfl, rfl⟩) | (go_at_call 38; refine (CD.out _).mono ?_; rintro e w' ⟨rfl, rfl⟩))
        refine CS.out.mono ?_
        rintro e w5 ⟨rfl, hb5, hr5⟩
        rw [← hsz] at hb5
        have hz5 := zstep HZ.out hb5
        have HB5 : Hid (Below w.heap.size w w5) := HBZ.out.trans (hb5.mono HBZ.out.size)
        have HR5 := hid hr5
        obtain ⟨b0, b1, b2, b3⟩ := zcells hz5
        have f0 := zfree hz5 0
        have f1 := zfree hz5 1
        have f2 := zfree hz5 2
        have f3 := zfree hz5 3
        clear hz5 hb5 hr5
        go_wp2_with fail
        go_loop [83] (fun v83 => ∃ i : Nat, i ≤ 22 ∧ v83 = .int .i64 (i : Int) ∧ Hid (∀ j x, j < i → sg[j]? = some x → pre x (c :: r) = false)) (fun v83 => 22 - (intOf v83).toNat)
        case atStart => exact ⟨0, by omega, rfl, fun j x h => absurd h (by omega)⟩
        case round =>
          obtain ⟨i, hi, rfl, hno⟩ := hrel
          by_cases hlt : i < 22
          · have hil : i < sg.length := by omega
            have hgi : sg[i]? = some sg[i] := List.getElem?_eq_getElem hil
            have hcx := HR5.out i sg[i] hgi
            have HP2 := hid (HPG.out i _ hgi)
            have HN2 : Hid (pre sg[i] (c :: r) = false → ∀ j x, j < i + 1 → sg[j]? = some x → pre x (c :: r) = false) := fun h j x hj hx => by
              by_cases hji : j = i
              · subst hji
                rw [hgi] at hx
                cases hx; exact h
              · exact hno.out j x (by omega) hx
            generalize sg[i] = x at *
            have hxs : (⟨x.toArray⟩ : ByteArray).size = x.length := size_mk _
            by_cases hxl : x.length ≤ s.size
            · have hxl' : (x.length : Int) ≤ (s.size : Int) := by omega
              have hex : s.extract 0 x.length = ⟨((c :: r).take x.length).toArray⟩ := by rw [extract_mk, HLC.out]; simp
              have hpe : pre x (c :: r) = ((c :: r).take x.length == x) := by unfold pre; rw [decide_eq_true (by rw [hlr]; exact hxl)]; rfl
              by_cases hm : ((c :: r).take x.length == x) = true
              · have HT3 : Hid (R = .good 5 x 0 ((c :: r).drop x.length)) := by
                  show _ = _
                  rw [HT.out]
                  exact HP2.out hno.out (hpe.trans hm)
                have HE : Hid ((s.size : Int) - (((c :: r).drop x.length).length : Int) = (x.length : Int)) := by
                  show _ = _
                  rw [List.length_drop, hlr]; omega
                clear hpe
                generalize (c :: r).take x.length = y at *
                go_wp2_with fail
                refine bodyPost_ret (v := .tuple #[tokV 5 0 x 0, .int .i64 (x.length : Int), .int .i64 0]) (by simp [results, Tryd.results24, go_sem, tokV, byS, b0, b1, b2, b3]) rfl ?_
                rw [HT3.out]
                refine ⟨?_, bel4 HB5.out (Nat.le_refl _)⟩
                simp only [oneV, HE.out]
              · have hm' : ((c :: r).take x.length == x) = false := by simpa using hm
                have HN3 := hid (HN2.out (hpe.trans hm'))
                clear hm hpe
                generalize (c :: r).take x.length = y at *
                go_wp2_with fail
                refine ⟨⟨i + 1, by omega, by go_num, HN3.out⟩, ?_⟩
                simp [intOf]; omega
            · have hxl' : ¬ (x.length : Int) ≤ (s.size : Int) := by omega
              have HN3 := hid (HN2.out (by unfold pre; rw [decide_eq_false (by rw [hlr]; exact hxl)]; rfl))
              go_wp2_with fail
              refine ⟨⟨i + 1, by omega, by go_num, HN3.out⟩, ?_⟩
              simp [intOf]; omega
          · have hi22 : i = 22 := by omega
            subst hi22
            have HT3 : Hid (R = .bad 3) := by show _ = _; rw [HT.out]; exact HPF.out hno.out
            go_wp2_with fail
            refine bodyPost_ret (v := .tuple #[tokV 0 0 [] 0, .int .i64 0, .int .i64 3]) (by simp [results, Tryd.results24, go_sem, tokV, byS, b0, b1, b2, b3]) rfl ?_
            rw [HT3.out]
            exact ⟨rfl, bel4 HB5.out (Nat.le_refl _)⟩
end Go.Proofs.YtodcgdiejmdaaaaDoor
