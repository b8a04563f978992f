/-
  The function 'play' of the statements: one call on both readers; they agree.
-/
import Derived.Test.YtimphdnnnhgcgaaOwn
import Derived.Deep.RegionHeld3
namespace Go.Proofs.Ytimphdnnnhgcgaa
open Go.RowKit

/-- Both readers hold the same; below B nothing has changed. -/
structure Both (B g1 g2 : Nat) (w0 w : World) (l : List UInt8) (e : Int) : Prop where
  below : Below B w0 w
  wr : WR w g1 l e
  rr : RR w g2 l e

def PlayPost (B g1 g2 : Nat) (w : World) (en : Ending) (w' : World) : Prop := en = .returned (.bool true) ∧ ∃ l e, Both B g1 g2 w w' l e

theorem Ch.cell {g : Nat} {w w' : World} {a : Addr} {u : Value} (h : Ch g w w') (hc : w.cell? a = some u) (hne : a.block ≠ g) : w'.cell? a = some u :=
  World.grownBy.cell h hc (fun e => hne (by injection e))

/-- A draw changes no block. -/
theorem Ch.un {g : Nat} {w w' : World} (h : Ch g w.drew w') : Ch g w w' := ⟨h.os, h.tape, h.output, h.size, h.block⟩

theorem RIntPost.at {g : Nat} {l : List UInt8} {e lo hi : Int} {w : World} {en : Ending} {w' : World} (h : RIntPost g l e lo hi w en w') {l1 : List UInt8} {e1 n : Int} (hp : rInt l e lo hi = (l1, e1, n)) :
    en = .returned (.int .i64 n) ∧ RR w' g l1 e1 ∧ Ch g w w' := by
  unfold RIntPost at h
  rwa [hp] at h

theorem RTextPost.at {g : Nat} {l : List UInt8} {e most : Int} {w : World} {en : Ending} {w' : World} (h : RTextPost g l e most w en w') {l1 : List UInt8} {e1 : Int} {s : List UInt8} (hp : rText l e most = (l1, e1, s)) :
    en = .returned (strOf s) ∧ RR w' g l1 e1 ∧ Ch g w w' := by
  unfold RTextPost at h
  rwa [hp] at h
theorem BoolPost.at {g : Nat} {l : List UInt8} {e : Int} {w : World} {en : Ending} {w' : World} (h : BoolPost g l e w en w') {l1 : List UInt8} {e1 : Int} {b : Bool} (hp : rBool l e = (l1, e1, b)) :
    en = .returned (.bool b) ∧ WR w' g l1 e1 ∧ Ch g w w' := by
  unfold BoolPost at h
  rwa [hp] at h
theorem RBoolPost.at {g : Nat} {l : List UInt8} {e : Int} {w : World} {en : Ending} {w' : World} (h : RBoolPost g l e w en w') {l1 : List UInt8} {e1 : Int} {b : Bool} (hp : rBool l e = (l1, e1, b)) :
    en = .returned (.bool b) ∧ RR w' g l1 e1 ∧ Ch g w w' := by
  unfold RBoolPost at h
  rwa [hp] at h

/-- What two changes of the call's own readers leave. -/
theorem two_ch {B g1 g2 : Nat} {w w1 wa wb : World} (h0 : Below w.heap.size w w1) (hB : B ≤ w.heap.size) (ha : Ch g1 w1 wa) (hb : Ch g2 wa wb) (hB1 : B ≤ g1) (hB2 : B ≤ g2) : Below B w wb :=
  ((h0.mono hB).trans (ha.below hB1 (Nat.le_trans hB h0.size))).trans (hb.below hB2 (Nat.le_trans (Nat.le_trans hB h0.size) ha.size))

set_option maxRecDepth 100000 in
set_option maxHeartbeats 1000000 in
theorem play_int (B g1 g2 : Nat) (l : List UInt8) (e lo hi : Int) (w : World) (hw : WR w g1 l e) (hr : RR w g2 l e) (hB1 : B ≤ g1) (hB2 : B ≤ g2) (hB : B ≤ w.heap.size) :
    Calls Try.prog 20 #[.pointer (some ⟨g1, 0, none⟩), .pointer (some ⟨g2, 0, none⟩), .agg #[.int .i64 0, .int .i64 lo, .int .i64 hi]] w (PlayPost B g1 g2 w) := by
  have hba := below_alloc w (.cells #[.int .i64 0, .int .i64 lo, .int .i64 hi] 35)
  have HBA := hid hba
  have hw1 := hid (hw.below hba)
  have hr1 := hid (hr.below hba)
  have hlt1 := hw.lt
  have hlt2 := hr.lt
  have ne12 := hw.ne_RR hr
  have k1 : (w.alloc (.cells #[.int .i64 0, .int .i64 lo, .int .i64 hi] 35)).cell? ⟨w.heap.size, 1, none⟩ = some (.int .i64 lo) := cellAt (heap_alloc_new w _) 1
  have k2 : (w.alloc (.cells #[.int .i64 0, .int .i64 lo, .int .i64 hi] 35)).cell? ⟨w.heap.size, 2, none⟩ = some (.int .i64 hi) := cellAt (heap_alloc_new w _) 2
  have K1 := hid k1
  have K2 := hid k2
  have hpi : ∃ l' e' m', rInt l e lo hi = (l', e', m') := ⟨_, _, _, rfl⟩
  obtain ⟨l', e', m', hpi⟩ := hpi
  have HPI := hid hpi
  clear hw hr hba hpi k1 k2
  go_enter Try.func20, Try.ntmps20
  go_wp2_with fail
  go_region_held3 (fun w' => w'.cell? ⟨w.heap.size, 1, none⟩ = some (.int .i64 lo) ∧ w'.cell? ⟨w.heap.size, 2, none⟩ = some (.int .i64 hi))
    (first | exact ⟨K1.out, K2.out⟩ | exact ⟨p1.out, p2.out⟩ | exact ⟨q1.out, q2.out⟩)
    (first
      | (go_at_call 21; refine (int_any g1 l e lo hi _ ?_).mono ?_; exact hw1.out; intro en wa ht; obtain ⟨rfl, hwa, hca0⟩ := ht.at HPI.out; have hca := hca0.un; have p1 := hid (hca.cell K1.out (by simp; omega)); have p2 := hid (hca.cell K2.out (by simp; omega)); have hra := hid (hr1.out.ch hca (Ne.symm ne12) hw1.out.noB); have hwa' := hid hwa; have hca' := hid hca; clear hwa hca hca0 ht)
      | (go_at_call 28; refine (rint_any g2 l e lo hi _ ?_).mono ?_; exact hra.out; intro en wb ht; obtain ⟨rfl, hrb, hcb⟩ := RIntPost.at ht HPI.out; have q1 := hid (hcb.cell p1.out (by simp; omega)); have q2 := hid (hcb.cell p2.out (by simp; omega)); have hwb := hid (hwa'.out.ch hcb ne12 hra.out.noB); have hrb' := hid hrb; have hcb' := hid hcb; clear hrb hcb ht))
  go_wp2_with (first
    | (go_at_call 24; ((with_reducible refine (err_any g1 l' e' _ hwb.out).mono ?_); rintro en w' ⟨rfl, rfl⟩))
    | (go_at_call 35; ((with_reducible refine (rerr_any g2 l' e' _ hrb'.out).mono ?_); rintro en w' ⟨rfl, rfl⟩))
    | (go_at_call 27; ((with_reducible refine (end_any g1 l' e' _ hwb.out).mono ?_); rintro en w' ⟨rfl, rfl⟩))
    | (go_at_call 36; ((with_reducible refine (rend_any g2 l' e' _ hrb'.out).mono ?_); rintro en w' ⟨rfl, rfl⟩))
    | (go_at_call 25; ((with_reducible refine (left_any g1 l' e' _ hwb.out).mono ?_); rintro en w' ⟨rfl, rfl⟩))
    | (go_at_call 37; ((with_reducible refine (rleft_any g2 l' e' _ hrb'.out).mono ?_); rintro en w' ⟨rfl, rfl⟩)))
  go_ret
  exact ⟨rfl, l', e', two_ch HBA.out hB hca'.out hcb'.out hB1 hB2, hwb.out, hrb'.out⟩

set_option maxRecDepth 100000 in
set_option maxHeartbeats 1000000 in
theorem play_text (B g1 g2 : Nat) (l : List UInt8) (e lo hi : Int) (w : World) (hw : WR w g1 l e) (hr : RR w g2 l e) (hB1 : B ≤ g1) (hB2 : B ≤ g2) (hB : B ≤ w.heap.size) :
    Calls Try.prog 20 #[.pointer (some ⟨g1, 0, none⟩), .pointer (some ⟨g2, 0, none⟩), .agg #[.int .i64 1, .int .i64 lo, .int .i64 hi]] w (PlayPost B g1 g2 w) := by
  have hba := below_alloc w (.cells #[.int .i64 1, .int .i64 lo, .int .i64 hi] 35)
  have HBA := hid hba
  have hw1 := hid (hw.below hba)
  have hr1 := hid (hr.below hba)
  have hlt1 := hw.lt
  have hlt2 := hr.lt
  have ne12 := hw.ne_RR hr
  have k1 : (w.alloc (.cells #[.int .i64 1, .int .i64 lo, .int .i64 hi] 35)).cell? ⟨w.heap.size, 1, none⟩ = some (.int .i64 lo) := cellAt (heap_alloc_new w _) 1
  have k2 : (w.alloc (.cells #[.int .i64 1, .int .i64 lo, .int .i64 hi] 35)).cell? ⟨w.heap.size, 2, none⟩ = some (.int .i64 hi) := cellAt (heap_alloc_new w _) 2
  have K1 := hid k1
  have K2 := hid k2
  have hpi : ∃ l' e' m', rText l e hi = (l', e', m') := ⟨_, _, _, rfl⟩
  obtain ⟨l', e', m', hpi⟩ := hpi
  have HPI := hid hpi
  obtain ⟨sb, hsb⟩ : ∃ sb, strOf m' = .string sb := ⟨_, rfl⟩
  clear hw hr hba hpi k1 k2 K1
  go_enter Try.func20, Try.ntmps20
  go_wp2_with fail
  go_region_held3 (fun w' => w'.cell? ⟨w.heap.size, 2, none⟩ = some (.int .i64 hi))
    (first | exact K2.out | exact p2.out | exact q2.out)
    (first
      | (go_at_call 22; refine (text_any g1 l e hi _ ?_).mono ?_; exact hw1.out; intro en wa ht; obtain ⟨he, hwa, hca0⟩ := ht.at HPI.out; rw [hsb] at he; subst he; have hca := hca0.un; have p2 := hid (hca.cell K2.out (by simp; omega)); have hra := hid (hr1.out.ch hca (Ne.symm ne12) hw1.out.noB); have hwa' := hid hwa; have hca' := hid hca; clear hwa hca hca0 ht)
      | (go_at_call 32; refine (rtext_any g2 l e hi _ ?_).mono ?_; exact hra.out; intro en wb ht; obtain ⟨he, hrb, hcb⟩ := RTextPost.at ht HPI.out; rw [hsb] at he; subst he; have q2 := hid (hcb.cell p2.out (by simp; omega)); have hwb := hid (hwa'.out.ch hcb ne12 hra.out.noB); have hrb' := hid hrb; have hcb' := hid hcb; clear hrb hcb ht))
  go_wp2_with (first
    | (go_at_call 24; ((with_reducible refine (err_any g1 l' e' _ hwb.out).mono ?_); rintro en w' ⟨rfl, rfl⟩))
    | (go_at_call 35; ((with_reducible refine (rerr_any g2 l' e' _ hrb'.out).mono ?_); rintro en w' ⟨rfl, rfl⟩))
    | (go_at_call 27; ((with_reducible refine (end_any g1 l' e' _ hwb.out).mono ?_); rintro en w' ⟨rfl, rfl⟩))
    | (go_at_call 36; ((with_reducible refine (rend_any g2 l' e' _ hrb'.out).mono ?_); rintro en w' ⟨rfl, rfl⟩))
    | (go_at_call 25; ((with_reducible refine (left_any g1 l' e' _ hwb.out).mono ?_); rintro en w' ⟨rfl, rfl⟩))
    | (go_at_call 37; ((with_reducible refine (rleft_any g2 l' e' _ hrb'.out).mono ?_); rintro en w' ⟨rfl, rfl⟩)))
  go_ret
  exact ⟨rfl, l', e', two_ch HBA.out hB hca'.out hcb'.out hB1 hB2, hwb.out, hrb'.out⟩

set_option maxRecDepth 100000 in
set_option maxHeartbeats 1000000 in
theorem play_bool (B g1 g2 : Nat) (l : List UInt8) (e lo hi : Int) (w : World) (hw : WR w g1 l e) (hr : RR w g2 l e) (hB1 : B ≤ g1) (hB2 : B ≤ g2) (hB : B ≤ w.heap.size) :
    Calls Try.prog 20 #[.pointer (some ⟨g1, 0, none⟩), .pointer (some ⟨g2, 0, none⟩), .agg #[.int .i64 2, .int .i64 lo, .int .i64 hi]] w (PlayPost B g1 g2 w) := by
  have hba := below_alloc w (.cells #[.int .i64 2, .int .i64 lo, .int .i64 hi] 35)
  have HBA := hid hba
  have hw1 := hid (hw.below hba)
  have hr1 := hid (hr.below hba)
  have hlt1 := hw.lt
  have hlt2 := hr.lt
  have ne12 := hw.ne_RR hr
  have k1 : (w.alloc (.cells #[.int .i64 2, .int .i64 lo, .int .i64 hi] 35)).cell? ⟨w.heap.size, 1, none⟩ = some (.int .i64 lo) := cellAt (heap_alloc_new w _) 1
  have k2 : (w.alloc (.cells #[.int .i64 2, .int .i64 lo, .int .i64 hi] 35)).cell? ⟨w.heap.size, 2, none⟩ = some (.int .i64 hi) := cellAt (heap_alloc_new w _) 2
  have K1 := hid k1
  have K2 := hid k2
  have hpi : ∃ l' e' m', rBool l e = (l', e', m') := ⟨_, _, _, rfl⟩
  obtain ⟨l', e', m', hpi⟩ := hpi
  have HPI := hid hpi
  clear hw hr hba hpi k1 k2 K1 K2
  go_enter Try.func20, Try.ntmps20
  go_wp2_with fail
  refine (bool_any g1 l e _ hw1.out).mono ?_
  intro en wa ht
  obtain ⟨rfl, hwa, hca⟩ := ht.at HPI.out
  have hra := hid (hr1.out.ch hca (Ne.symm ne12) hw1.out.noB)
  have hwa' := hid hwa
  have hca' := hid hca
  clear hwa hca ht
  go_wp2_with fail
  refine (rbool_any g2 l e _ hra.out).mono ?_
  intro en wb ht
  obtain ⟨rfl, hrb, hcb⟩ := RBoolPost.at ht HPI.out
  have hwb := hid (hwa'.out.ch hcb ne12 hra.out.noB)
  have hrb' := hid hrb
  have hcb' := hid hcb
  clear hrb hcb ht
  go_wp2_with (first
    | (go_at_call 24; ((with_reducible refine (err_any g1 l' e' _ hwb.out).mono ?_); rintro en w' ⟨rfl, rfl⟩))
    | (go_at_call 35; ((with_reducible refine (rerr_any g2 l' e' _ hrb'.out).mono ?_); rintro en w' ⟨rfl, rfl⟩))
    | (go_at_call 27; ((with_reducible refine (end_any g1 l' e' _ hwb.out).mono ?_); rintro en w' ⟨rfl, rfl⟩))
    | (go_at_call 36; ((with_reducible refine (rend_any g2 l' e' _ hrb'.out).mono ?_); rintro en w' ⟨rfl, rfl⟩))
    | (go_at_call 25; ((with_reducible refine (left_any g1 l' e' _ hwb.out).mono ?_); rintro en w' ⟨rfl, rfl⟩))
    | (go_at_call 37; ((with_reducible refine (rleft_any g2 l' e' _ hrb'.out).mono ?_); rintro en w' ⟨rfl, rfl⟩)))
  go_ret
  exact ⟨rfl, l', e', two_ch HBA.out hB hca'.out hcb'.out hB1 hB2, hwb.out, hrb'.out⟩

set_option maxRecDepth 100000 in
set_option maxHeartbeats 1000000 in
theorem play_fail (B g1 g2 : Nat) (l : List UInt8) (e lo hi : Int) (w : World) (hw : WR w g1 l e) (hr : RR w g2 l e) (hB1 : B ≤ g1) (hB2 : B ≤ g2) (hB : B ≤ w.heap.size) :
    Calls Try.prog 20 #[.pointer (some ⟨g1, 0, none⟩), .pointer (some ⟨g2, 0, none⟩), .agg #[.int .i64 3, .int .i64 lo, .int .i64 hi]] w (PlayPost B g1 g2 w) := by
  have hba := below_alloc w (.cells #[.int .i64 3, .int .i64 lo, .int .i64 hi] 35)
  have HBA := hid hba
  have hw1 := hid (hw.below hba)
  have hr1 := hid (hr.below hba)
  have hlt1 := hw.lt
  have hlt2 := hr.lt
  have ne12 := hw.ne_RR hr
  have k1 : (w.alloc (.cells #[.int .i64 3, .int .i64 lo, .int .i64 hi] 35)).cell? ⟨w.heap.size, 1, none⟩ = some (.int .i64 lo) := cellAt (heap_alloc_new w _) 1
  have k2 : (w.alloc (.cells #[.int .i64 3, .int .i64 lo, .int .i64 hi] 35)).cell? ⟨w.heap.size, 2, none⟩ = some (.int .i64 hi) := cellAt (heap_alloc_new w _) 2
  have K1 := hid k1
  have K2 := hid k2
  clear hw hr hba k1 k2 K2
  have k1 := K1.out
  go_enter Try.func20, Try.ntmps20
  go_wp2_with fail
  refine (fail_any g1 l e lo _ hw1.out).mono ?_
  intro en wa ht
  obtain ⟨rfl, hwa, hca⟩ := ht
  have hra := hid (hr1.out.ch hca (Ne.symm ne12) hw1.out.noB)
  have p1 := hca.cell K1.out (by simp; omega)
  have hwa' := hid hwa
  have hca' := hid hca
  clear hwa hca
  go_wp2_with fail
  refine (rfail_any g2 l e lo _ hra.out).mono ?_
  intro en wb ht
  obtain ⟨rfl, hrb, hcb⟩ := ht
  have hwb := hid (hwa'.out.ch hcb ne12 hra.out.noB)
  have hrb' := hid hrb
  have hcb' := hid hcb
  clear hrb hcb p1
  generalize (if e ≠ 0 ∨ lo = 0 then l else []) = l' at hwb hrb'
  generalize (if e ≠ 0 ∨ lo = 0 then e else lo) = e' at hwb hrb'
  go_wp2_with (first
    | (go_at_call 24; ((with_reducible refine (err_any g1 l' e' _ hwb.out).mono ?_); rintro en w' ⟨rfl, rfl⟩))
    | (go_at_call 35; ((with_reducible refine (rerr_any g2 l' e' _ hrb'.out).mono ?_); rintro en w' ⟨rfl, rfl⟩))
    | (go_at_call 27; ((with_reducible refine (end_any g1 l' e' _ hwb.out).mono ?_); rintro en w' ⟨rfl, rfl⟩))
    | (go_at_call 36; ((with_reducible refine (rend_any g2 l' e' _ hrb'.out).mono ?_); rintro en w' ⟨rfl, rfl⟩))
    | (go_at_call 25; ((with_reducible refine (left_any g1 l' e' _ hwb.out).mono ?_); rintro en w' ⟨rfl, rfl⟩))
    | (go_at_call 37; ((with_reducible refine (rleft_any g2 l' e' _ hrb'.out).mono ?_); rintro en w' ⟨rfl, rfl⟩)))
  go_ret
  exact ⟨rfl, l', e', two_ch HBA.out hB hca'.out hcb'.out hB1 hB2, hwb.out, hrb'.out⟩

set_option maxRecDepth 100000 in
set_option maxHeartbeats 1000000 in
theorem play_other (B g1 g2 : Nat) (l : List UInt8) (e lo hi : Int) (w : World) (hw : WR w g1 l e) (hr : RR w g2 l e) (_hB1 : B ≤ g1) (_hB2 : B ≤ g2) (hB : B ≤ w.heap.size) (k : Int) (z0 : k ≠ 0) (z1 : k ≠ 1) (z2 : k ≠ 2) (z3 : k ≠ 3) :
    Calls Try.prog 20 #[.pointer (some ⟨g1, 0, none⟩), .pointer (some ⟨g2, 0, none⟩), .agg #[.int .i64 k, .int .i64 lo, .int .i64 hi]] w (PlayPost B g1 g2 w) := by
  have hba := below_alloc w (.cells #[.int .i64 k, .int .i64 lo, .int .i64 hi] 35)
  have HBA := hid hba
  have hw1 := hid (hw.below hba)
  have hr1 := hid (hr.below hba)
  have y0 : (k == 0) = false := by simpa using z0
  have y1 : (k == 1) = false := by simpa using z1
  have y2 : (k == 2) = false := by simpa using z2
  have y3 : (k == 3) = false := by simpa using z3
  clear hw hr hba z0 z1 z2 z3
  go_enter Try.func20, Try.ntmps20
  go_wp2_with (first
    | (go_at_call 24; ((with_reducible refine (err_any g1 l e _ hw1.out).mono ?_); rintro en w' ⟨rfl, rfl⟩))
    | (go_at_call 35; ((with_reducible refine (rerr_any g2 l e _ hr1.out).mono ?_); rintro en w' ⟨rfl, rfl⟩))
    | (go_at_call 27; ((with_reducible refine (end_any g1 l e _ hw1.out).mono ?_); rintro en w' ⟨rfl, rfl⟩))
    | (go_at_call 36; ((with_reducible refine (rend_any g2 l e _ hr1.out).mono ?_); rintro en w' ⟨rfl, rfl⟩))
    | (go_at_call 25; ((with_reducible refine (left_any g1 l e _ hw1.out).mono ?_); rintro en w' ⟨rfl, rfl⟩))
    | (go_at_call 37; ((with_reducible refine (rleft_any g2 l e _ hr1.out).mono ?_); rintro en w' ⟨rfl, rfl⟩)))
  go_ret
  exact ⟨rfl, l, e, HBA.out.mono hB, hw1.out, hr1.out⟩

theorem play_any (B g1 g2 : Nat) (l : List UInt8) (e k lo hi : Int) (w : World) (hw : WR w g1 l e) (hr : RR w g2 l e) (hB1 : B ≤ g1) (hB2 : B ≤ g2) (hB : B ≤ w.heap.size) :
    Calls Try.prog 20 #[.pointer (some ⟨g1, 0, none⟩), .pointer (some ⟨g2, 0, none⟩), .agg #[.int .i64 k, .int .i64 lo, .int .i64 hi]] w (PlayPost B g1 g2 w) := by
  by_cases z0 : k = 0
  · subst z0; exact play_int B g1 g2 l e lo hi w hw hr hB1 hB2 hB
  · by_cases z1 : k = 1
    · subst z1; exact play_text B g1 g2 l e lo hi w hw hr hB1 hB2 hB
    · by_cases z2 : k = 2
      · subst z2; exact play_bool B g1 g2 l e lo hi w hw hr hB1 hB2 hB
      · by_cases z3 : k = 3
        · subst z3; exact play_fail B g1 g2 l e lo hi w hw hr hB1 hB2 hB
        · exact play_other B g1 g2 l e lo hi w hw hr hB1 hB2 hB k z0 z1 z2 z3
end Go.Proofs.Ytimphdnnnhgcgaa
