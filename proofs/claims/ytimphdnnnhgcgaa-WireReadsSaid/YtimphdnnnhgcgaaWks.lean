/-
  The function 'works' of the statements: the chapter's examples; it returns true, and leaves what was there.
-/
import Derived.Test.YtimphdnnnhgcgaaRd4
namespace Go.Proofs.Ytimphdnnnhgcgaa
open Go.RowKit

theorem below_draws {B : Nat} {w : World} (n : Nat) : Below B w (w.drewN n) := ⟨rfl, rfl, rfl, Nat.le_refl _, fun _ _ => rfl⟩

theorem equal_yes {v1 v2 : Value} {l1 l2 : List UInt8} {w : World} (h1 : Bs w v1 l1) (h2 : Bs w v2 l2) (h : l1 = l2) :
    Calls Try.prog 11 #[v1, v2] w fun e w' => e = .returned (.bool true) ∧ Below w.heap.size w w' :=
  (equal_any v1 v2 l1 l2 w h1 h2).mono fun _ _ ⟨he, _, hw⟩ => ⟨by rw [he, decide_eq_true h], by rw [hw]; exact below_draws _⟩
theorem equal_no {v1 v2 : Value} {l1 l2 : List UInt8} {w : World} (h1 : Bs w v1 l1) (h2 : Bs w v2 l2) (h : l1 ≠ l2) :
    Calls Try.prog 11 #[v1, v2] w fun e w' => e = .returned (.bool false) ∧ Below w.heap.size w w' :=
  (equal_any v1 v2 l1 l2 w h1 h2).mono fun _ _ ⟨he, _, hw⟩ => ⟨by rw [he, decide_eq_false h], by rw [hw]; exact below_draws _⟩

theorem ex_text : rText [4, 97] 0 9 = ([], 4, []) := by decide +kernel
theorem ex_int : rInt [128, 0] 0 (-9223372036854775808) 9223372036854775807 = ([], 3, 0) := by decide +kernel
theorem ex_enc : [7] ++ Wi.enc (-65) = [7, 129, 1] := by
  unfold Wi.enc
  rw [show Wi.zig (-65) = 129 from rfl, Wi.digs_big (by omega), Wi.digs_small (by omega)]
  rfl
theorem ex_str : [] ++ encText [97, 98] = [4, 97, 98] := by
  unfold encText Wi.enc
  rw [show Wi.zig (([97, 98] : List UInt8).length : Int) = 4 from rfl, Wi.digs_small (by omega)]
  rfl

theorem lit8s (w : World) (l : List UInt8) (h : l.length ≤ maxLen) : Bs (w.alloc (.cells (l.map by8).toArray 5)) (.slice (some ⟨w.heap.size, 0, none⟩) l.length l.length) l := by
  have := lit_rd w (l.map by8) (by simpa using h)
  simpa [Bs] using this
theorem lit_4_97 (w : World) : Bs (w.alloc (.cells #[.int .u8 4, .int .u8 97] 5)) (.slice (some ⟨w.heap.size, 0, none⟩) 2 2) [4, 97] := lit8s w [4, 97] (by simp [maxLen])
theorem lit_128_0 (w : World) : Bs (w.alloc (.cells #[.int .u8 128, .int .u8 0] 5)) (.slice (some ⟨w.heap.size, 0, none⟩) 2 2) [128, 0] := lit8s w [128, 0] (by simp [maxLen])
theorem lit_7 (w : World) : Bs (w.alloc (.cells #[.int .u8 7] 5)) (.slice (some ⟨w.heap.size, 0, none⟩) 1 1) [7] := lit8s w [7] (by simp [maxLen])
theorem lit_7_129_1 (w : World) : Bs (w.alloc (.cells #[.int .u8 7, .int .u8 129, .int .u8 1] 5)) (.slice (some ⟨w.heap.size, 0, none⟩) 3 3) [7, 129, 1] := lit8s w [7, 129, 1] (by simp [maxLen])
theorem lit_4_97_98 (w : World) : Bs (w.alloc (.cells #[.int .u8 4, .int .u8 97, .int .u8 98] 5)) (.slice (some ⟨w.heap.size, 0, none⟩) 3 3) [4, 97, 98] := lit8s w [4, 97, 98] (by simp [maxLen])

theorem below_alloc (w : World) (o : Obj) : Below w.heap.size w (w.alloc o) := (Below.refl _ _).alloc (Nat.le_refl _) o

theorem IntPost.at {g : Nat} {l : List UInt8} {e lo hi : Int} {w : World} {en : Ending} {w' : World} (h : IntPost g l e lo hi w en w') {l1 : List UInt8} {e1 n : Int} (hp : rInt l e lo hi = (l1, e1, n)) :
    en = .returned (.int .i64 n) ∧ WR w' g l1 e1 ∧ Ch g w w' := by
  unfold IntPost at h
  rwa [hp] at h
theorem TextPost.at {g : Nat} {l : List UInt8} {e most : Int} {w : World} {en : Ending} {w' : World} (h : TextPost g l e most w en w') {l1 : List UInt8} {e1 : Int} {s : List UInt8} (hp : rText l e most = (l1, e1, s)) :
    en = .returned (strOf s) ∧ WR w' g l1 e1 ∧ Ch g w w' := by
  unfold TextPost at h
  rwa [hp] at h

set_option maxRecDepth 100000 in
set_option maxHeartbeats 1000000 in
theorem works_any (w : World) : Calls Try.prog 10 #[] w fun e w' => e = .returned (.bool true) ∧ Below w.heap.size w w' := by
  go_enter Try.func10, Try.ntmps10
  go_wp2_with fail
  refine (open_any _ [4, 97] _ (lit_4_97 _) (by simp)).mono ?_
  rintro en w1 ⟨g1, rfl, hr1, hb1, hg1⟩
  have hb1' := bstep (below_alloc w _) hb1
  have hs1 := hb1'.size
  clear hb1
  have hg1' : w.heap.size ≤ g1 := by simp at hg1; omega
  clear hg1
  go_wp2_with fail
  refine (open_any _ [128, 0] _ (lit_128_0 _) (by simp)).mono ?_
  rintro en w2 ⟨g2, rfl, hr2, hb2, hg2⟩
  have hb2' := bstep (below_alloc w1 _) hb2
  have hs2 := hb2'.size
  clear hb2
  have hlt1 := hr1.lt
  have hne : g1 ≠ g2 := by simp at hg2; omega
  have hg2' : w.heap.size ≤ g2 := by simp at hg2; omega
  have hq1 := hr1.below hb2'
  clear hg2 hr1
  have hB2 := bstep hb1' hb2'
  clear hb1' hb2'
  go_wp2_with fail
  refine (text_any g1 [4, 97] 0 9 _ hq1).mono ?_
  intro en w3 ht
  obtain ⟨rfl, hq3, hch3⟩ := ht.at ex_text
  have hr3 := hr2.ch hch3 (Ne.symm hne) hq1.noB
  have hB3 := hB2.trans (hch3.below hg1' (by omega))
  have hs3 := hB3.size
  clear ht hr2 hq1 hch3 hB2
  go_wp2_with fail
  refine (int_any g2 [128, 0] 0 (-9223372036854775808) 9223372036854775807 _ hr3).mono ?_
  intro en w4 ht
  obtain ⟨rfl, hr4, hch4⟩ := ht.at ex_int
  have hq4 := hq3.ch hch4 hne hr3.noB
  have hB4 := hB3.trans (hch4.below hg2' (by omega))
  clear ht hr3 hq3 hch4 hB3
  go_wp2_with fail
  refine (putInt_any _ [7] (-65) _ (lit_7 _) (by simp) (by omega) (by omega)).mono ?_
  rintro en w5 ⟨v5, rfl, hown5, hb5⟩
  rw [ex_enc] at hown5
  have hb5' := bstep (below_alloc w4 _) hb5
  have hB5 := bstep hB4 hb5'
  have hr5 := hr4.below hb5'
  have hq5 := hq4.below hb5'
  clear hb5 hb5' hB4 hr4 hq4
  go_wp2_with fail
  refine (equal_yes (hown5.bs.alloc _) (lit_7_129_1 _) rfl).mono ?_
  rintro en w6 ⟨rfl, hb6⟩
  have hb6' := bstep (below_alloc w5 _) hb6
  have hB6 := bstep hB5 hb6'
  have hr6 := hr5.below hb6'
  have hq6 := hq5.below hb6'
  clear hb6 hb6' hB5 hr5 hq5 hown5
  go_wp2_with fail
  refine (putText_any _ [] ⟨#[97, 98]⟩ _ (Bs.nil _) (by simp) (by decide)).mono ?_
  rintro en w7 ⟨v7, rfl, hown7, hb7⟩
  have hown7' : OwnB w7 w6.heap.size v7 [4, 97, 98] := by rw [← ex_str]; exact hown7
  have hB7 := bstep hB6 hb7
  have hr7 := hr6.below hb7
  have hq7 := hq6.below hb7
  clear hown7 hb7 hB6 hr6 hq6
  go_wp2_with fail
  refine (equal_yes (hown7'.bs.alloc _) (lit_4_97_98 _) rfl).mono ?_
  rintro en w8 ⟨rfl, hb8⟩
  have hb8' := bstep (below_alloc w7 _) hb8
  have hB8 := bstep hB7 hb8'
  have hr8 := hr7.below hb8'
  have hq8 := hq7.below hb8'
  clear hb8 hb8' hB7 hr7 hq7 hown7'
  go_wp2_with fail
  refine (err_any g1 [] 4 _ hq8).mono ?_
  rintro en w' ⟨rfl, rfl⟩
  go_wp2_with fail
  refine (err_any g2 [] 3 _ hr8).mono ?_
  rintro en w' ⟨rfl, rfl⟩
  go_wp2_with fail
  refine (open_any _ [] _ (Bs.nil _) (by simp)).mono ?_
  rintro en w9 ⟨g9, rfl, hr9, hb9, hg9⟩
  have hB9 := bstep hB8 hb9
  clear hB8 hr8 hq8 hb9
  go_wp2_with fail
  refine (end_any g9 [] 0 _ hr9).mono ?_
  rintro en w' ⟨rfl, rfl⟩
  go_wp2_with fail
  go_ret
  exact ⟨rfl, hB9⟩
end Go.Proofs.Ytimphdnnnhgcgaa
