/-
  WHAT IS PROVED: the statement WireCanonical of layer 1 (Rows.WireCanonicalSaid): for every input, of any size, the Go function workflowlaw01.WireCanonical returns true, and each argument reads afterwards as it read before. CONDITIONS: none beyond the row's own.
-/
import Derived.Test.YtimphdnnnhgcgaaRows
import Derived.Test.YtimphdnnnhgcgaaBack
import Derived.ProofKit
import Derived.OpenShut
import Derived.ShutString
import Derived.ChangeOld
namespace Go.Proofs.Ytimphdnnnhgcgaa.wireCanonical
open Go.ChangeShapes Go.WideShapes Go.ChangeAt Go.RowKit
open Go.ChangeMaps (open_string shut_string)
set_option linter.unusedVariables false

/-- Three readers, and nothing that was there has changed. -/
structure Inv (w wc : World) (g1 g2 g3 : Nat) (l1 : List UInt8) (e1 : Int) (l2 : List UInt8) (e2 : Int) (l3 : List UInt8) (e3 : Int) : Prop where
  below : Below w.heap.size w wc
  r1 : WR wc g1 l1 e1
  r2 : WR wc g2 l2 e2
  r3 : WR wc g3 l3 e3
theorem Inv.step {w wc wd : World} {g1 g2 g3 : Nat} {l1 l2 l3 : List UInt8} {e1 e2 e3 : Int} (h : Inv w wc g1 g2 g3 l1 e1 l2 e2 l3 e3) (hb : Below wc.heap.size wc wd) : Inv w wd g1 g2 g3 l1 e1 l2 e2 l3 e3 :=
  ⟨bstep h.below hb, h.r1.below hb, h.r2.below hb, h.r3.below hb⟩

theorem putStr (t : List UInt8) (w : World) (ht : t.length ≤ 549755813888) : Calls Try.prog 14 #[.slice none 0 0, strOf t] w (NewB w (encText t)) :=
  putText_any _ [] ⟨t.toArray⟩ w (Bs.nil w) (by simp) (by simpa [ByteArray.size] using ht)

/-- What was read, as a slice of the bytes. -/
theorem head_cut {w : World} {A : Option Addr} {c : Nat} {l l1 e : List UInt8} (h : Bs w (.slice A l.length c) l) (hl : l = e ++ l1) :
    ∃ A1 k, l1.length ≤ l.length ∧ (∀ W : World, (Instr.slice 22 (.slice A l.length c) none (some (.int .i64 ((l.length : Int) - (l1.length : Int)))) none).run Try.prog W = .ok (.slice A1 k c) W) ∧ Bs w (.slice A1 k c) e := by
  have hlen : l.length = e.length + l1.length := by rw [hl, List.length_append]
  obtain ⟨A1, hcut, hb⟩ := h.upto e.length (by omega)
  refine ⟨A1, e.length, by omega, fun W => ?_, ?_⟩
  · rw [show ((l.length : Int) - (l1.length : Int)) = ((e.length : Nat) : Int) by omega]
    exact hcut W
  · have ht : l.take e.length = e := by rw [hl, List.take_left]
    rwa [ht] at hb

set_option maxRecDepth 100000 in
set_option maxHeartbeats 4000000 in
theorem walk (w : World) (v0 : Value) (l : List UInt8) (h0 : Bs w v0 l) :
    Calls Try.prog 6 #[v0] w fun e w' => e = .returned (.bool true) ∧ Below w.heap.size w w' := by
  obtain ⟨A, c, rfl⟩ := h0.form
  by_cases hl : 300 < l.length
  · go_enter Try.func6, Try.ntmps6
    go_wp2_with (go_at_call 10; refine (works_any _).mono ?_; rintro en w1 ⟨rfl, hb1⟩)
    go_ret
    exact ⟨rfl, hb1⟩
  · generalize hI : rInt l 0 (-9223372036854775808) 9223372036854775807 = pI
    obtain ⟨l1, e1, n⟩ := pI
    generalize hT : rText l 0 9223372036854775807 = pT
    obtain ⟨l2, e2, t⟩ := pT
    generalize hB : rBool l 0 = pB
    obtain ⟨l3, e3, bb⟩ := pB
    have HI := hid hI
    have HT := hid hT
    have HB := hid hB
    clear hI hT hB
    have hl' : l.length ≤ 300 := by omega
    go_enter Try.func6, Try.ntmps6
    go_wp2_with fail
    refine (open_any _ l _ h0 (by omega)).mono ?_
    rintro en w1 ⟨g1, rfl, hr1, hb1, hg1⟩
    go_wp2_with fail
    refine (open_any _ l _ (h0.below hb1) (by omega)).mono ?_
    rintro en w2 ⟨g2, rfl, hr2, hb2, hg2⟩
    have hB2 := bstep hb1 hb2
    go_wp2_with fail
    refine (open_any _ l _ (h0.below hB2) (by omega)).mono ?_
    rintro en w3 ⟨g3, rfl, hr3, hb3, hg3⟩
    have hB3 := bstep hB2 hb3
    have q1 := (hr1.below hb2).below hb3
    have q2 := hr2.below hb3
    have n1 := hr1.lt
    have n2 := hr2.lt
    have s1 := hb1.size
    have s2 := hb2.size
    have s3 := hB3.size
    have hg1' : w.heap.size ≤ g1 := by omega
    have hg2' : w.heap.size ≤ g2 := by omega
    have hg3' : w.heap.size ≤ g3 := by omega
    have ne12 : g1 ≠ g2 := by omega
    have ne13 : g1 ≠ g3 := by omega
    have ne23 : g2 ≠ g3 := by omega
    clear hr1 hr2 hb1 hb2 hb3 hB2 hg1 hg2 hg3 n1 n2 s1 s2
    go_wp2_with fail
    refine (int_any g1 l 0 (-9223372036854775808) 9223372036854775807 _ q1).mono ?_
    intro en w4 ht
    obtain ⟨rfl, k1, ch4⟩ := ht.at HI.out
    have k2 := q2.ch ch4 (Ne.symm ne12) q1.noB
    have k3 := hr3.ch ch4 (Ne.symm ne13) q1.noB
    have hB4 := hB3.trans (ch4.below hg1' s3)
    have s4 := hB4.size
    clear ht ch4 q1 q2 hr3 hB3
    go_wp2_with fail
    refine (text_any g2 l 0 9223372036854775807 _ k2).mono ?_
    intro en w5 ht
    obtain ⟨rfl, m2, ch5⟩ := ht.at HT.out
    have m1 := k1.ch ch5 ne12 k2.noB
    have m3 := k3.ch ch5 (Ne.symm ne23) k2.noB
    have hB5 := hB4.trans (ch5.below hg2' s4)
    have s5 := hB5.size
    clear ht ch5 k1 k2 k3 hB4
    go_wp2_with fail
    refine (bool_any g3 l 0 _ m3).mono ?_
    intro en w6 ht
    unfold BoolPost at ht
    rw [HB.out] at ht
    obtain ⟨rfl, o3, ch6⟩ := ht
    have hcur : Inv w w6 g1 g2 g3 l1 e1 l2 e2 l3 e3 := ⟨hB5.trans (ch6.below hg3' s5), m1.ch ch6 ne13 m3.noB, m2.ch ch6 ne23 m3.noB, o3⟩
    clear m1 m2 m3 o3 ch6 hB5 hg1' hg2' hg3' ne12 ne13 ne23 s3 s4 s5
    have H1 : Hid (e1 = 0 → ∃ A1 k, l1.length ≤ l.length ∧ (∀ W : World, (Instr.slice 22 (.slice A l.length c) none (some (.int .i64 ((l.length : Int) - (l1.length : Int)))) none).run Try.prog W = .ok (.slice A1 k c) W) ∧ Bs w (.slice A1 k c) (Wi.enc n) ∧ Hid (-9223372036854775808 ≤ n ∧ n ≤ 9223372036854775807)) := by
      intro h
      subst h
      obtain ⟨x1, x2, x3, _⟩ := rInt_ok HI.out
      obtain ⟨A1, k, y0, y1, y2⟩ := head_cut h0 x1
      exact ⟨A1, k, y0, y1, y2, x2, x3⟩
    have H2 : Hid (e2 = 0 → ∃ A1 k, l2.length ≤ l.length ∧ (∀ W : World, (Instr.slice 22 (.slice A l.length c) none (some (.int .i64 ((l.length : Int) - (l2.length : Int)))) none).run Try.prog W = .ok (.slice A1 k c) W) ∧ Bs w (.slice A1 k c) (encText t) ∧ Hid (t.length ≤ 549755813888)) := by
      intro h
      subst h
      have x1 := rText_ok HT.out
      obtain ⟨A1, k, y0, y1, y2⟩ := head_cut h0 x1
      refine ⟨A1, k, y0, y1, y2, ?_⟩
      have := congrArg List.length x1
      simp [encText] at this
      show _ ≤ _
      omega
    have H3 : Hid (e3 = 0 → ∃ A1 k, l3.length ≤ l.length ∧ (∀ W : World, (Instr.slice 22 (.slice A l.length c) none (some (.int .i64 ((l.length : Int) - (l3.length : Int)))) none).run Try.prog W = .ok (.slice A1 k c) W) ∧ Bs w (.slice A1 k c) (encBool bb)) := by
      intro h
      subst h
      obtain ⟨A1, k, y0, y1, y2⟩ := head_cut h0 (rBool_ok HB.out)
      exact ⟨A1, k, y0, y1, y2⟩
    clear HI HT HB
    by_cases z1 : e1 = 0
    · obtain ⟨A1, k1, hle1, hcut1, hs1, hn⟩ := H1.out z1
      subst z1
      by_cases z2 : e2 = 0
      · obtain ⟨A2, k2, hle2, hcut2, hs2, ht⟩ := H2.out z2
        subst z2
        by_cases z3 : e3 = 0
        · obtain ⟨A3, k3, hle3, hcut3, hs3⟩ := H3.out z3
          subst z3
          go_wp2_with (first
            | (go_at_call 24; ((with_reducible refine (err_any g1 l1 _ _ hcur.r1).mono ?_); rintro en w' ⟨rfl, rfl⟩))
            | (go_at_call 24; ((with_reducible refine (err_any g2 l2 _ _ hcur.r2).mono ?_); rintro en w' ⟨rfl, rfl⟩))
            | (go_at_call 24; ((with_reducible refine (err_any g3 l3 _ _ hcur.r3).mono ?_); rintro en w' ⟨rfl, rfl⟩))
            | (go_at_call 25; ((with_reducible refine (left_any g1 l1 _ _ hcur.r1).mono ?_); rintro en w' ⟨rfl, rfl⟩))
            | (go_at_call 25; ((with_reducible refine (left_any g2 l2 _ _ hcur.r2).mono ?_); rintro en w' ⟨rfl, rfl⟩))
            | (go_at_call 25; ((with_reducible refine (left_any g3 l3 _ _ hcur.r3).mono ?_); rintro en w' ⟨rfl, rfl⟩))
            | (go_at_call 12; ((with_reducible refine (putInt_nil n _ hn.out.1 hn.out.2).mono ?_); rintro en wp ⟨vp, rfl, hownp, hbp⟩; replace hcur := hcur.step hbp; clear hbp))
            | (go_at_call 14; ((with_reducible refine (putStr t _ ht.out).mono ?_); rintro en wp ⟨vp, rfl, hownp, hbp⟩; replace hcur := hcur.step hbp; clear hbp))
            | (go_at_call 16; ((with_reducible refine (putBool_any _ [] bb _ (Bs.nil _) (by simp)).mono ?_); rintro en wp ⟨vp, rfl, hownp, hbp⟩; replace hcur := hcur.step hbp; clear hbp))
            | (go_at_call 11; ((with_reducible refine (equal_yes hownp.bs (hs1.below hcur.below) rfl).mono ?_); rintro en we ⟨rfl, hbe⟩; replace hcur := hcur.step hbe; clear hbe hownp))
            | (go_at_call 11; ((with_reducible refine (equal_yes hownp.bs (hs2.below hcur.below) rfl).mono ?_); rintro en we ⟨rfl, hbe⟩; replace hcur := hcur.step hbe; clear hbe hownp))
            | (go_at_call 11; ((with_reducible refine (equal_yes hownp.bs (hs3.below hcur.below) rfl).mono ?_); rintro en we ⟨rfl, hbe⟩; replace hcur := hcur.step hbe; clear hbe hownp))
            | (go_at_call 10; ((with_reducible refine (works_any _).mono ?_); rintro en we ⟨rfl, hbe⟩; replace hcur := hcur.step hbe; clear hbe)))
          go_ret
          exact ⟨rfl, hcur.below⟩
        · have z3' : (e3 != 0) = true := by simpa using z3
          clear z3
          go_wp2_with (first
            | (go_at_call 24; ((with_reducible refine (err_any g1 l1 _ _ hcur.r1).mono ?_); rintro en w' ⟨rfl, rfl⟩))
            | (go_at_call 24; ((with_reducible refine (err_any g2 l2 _ _ hcur.r2).mono ?_); rintro en w' ⟨rfl, rfl⟩))
            | (go_at_call 24; ((with_reducible refine (err_any g3 l3 _ _ hcur.r3).mono ?_); rintro en w' ⟨rfl, rfl⟩))
            | (go_at_call 25; ((with_reducible refine (left_any g1 l1 _ _ hcur.r1).mono ?_); rintro en w' ⟨rfl, rfl⟩))
            | (go_at_call 25; ((with_reducible refine (left_any g2 l2 _ _ hcur.r2).mono ?_); rintro en w' ⟨rfl, rfl⟩))
            | (go_at_call 25; ((with_reducible refine (left_any g3 l3 _ _ hcur.r3).mono ?_); rintro en w' ⟨rfl, rfl⟩))
            | (go_at_call 12; ((with_reducible refine (putInt_nil n _ hn.out.1 hn.out.2).mono ?_); rintro en wp ⟨vp, rfl, hownp, hbp⟩; replace hcur := hcur.step hbp; clear hbp))
            | (go_at_call 14; ((with_reducible refine (putStr t _ ht.out).mono ?_); rintro en wp ⟨vp, rfl, hownp, hbp⟩; replace hcur := hcur.step hbp; clear hbp))
            | (go_at_call 16; ((with_reducible refine (putBool_any _ [] bb _ (Bs.nil _) (by simp)).mono ?_); rintro en wp ⟨vp, rfl, hownp, hbp⟩; replace hcur := hcur.step hbp; clear hbp))
            | (go_at_call 11; ((with_reducible refine (equal_yes hownp.bs (hs1.below hcur.below) rfl).mono ?_); rintro en we ⟨rfl, hbe⟩; replace hcur := hcur.step hbe; clear hbe hownp))
            | (go_at_call 11; ((with_reducible refine (equal_yes hownp.bs (hs2.below hcur.below) rfl).mono ?_); rintro en we ⟨rfl, hbe⟩; replace hcur := hcur.step hbe; clear hbe hownp))
            | (go_at_call 11; ((with_reducible refine (equal_yes hownp.bs (hs3.below hcur.below) rfl).mono ?_); rintro en we ⟨rfl, hbe⟩; replace hcur := hcur.step hbe; clear hbe hownp))
            | (go_at_call 10; ((with_reducible refine (works_any _).mono ?_); rintro en we ⟨rfl, hbe⟩; replace hcur := hcur.step hbe; clear hbe)))
          go_ret
          exact ⟨rfl, hcur.below⟩
      · have z2' : (e2 == 0) = false := by simpa using z2
        clear z2
        by_cases z3 : e3 = 0
        · obtain ⟨A3, k3, hle3, hcut3, hs3⟩ := H3.out z3
          subst z3
          go_wp2_with (first
            | (go_at_call 24; ((with_reducible refine (err_any g1 l1 _ _ hcur.r1).mono ?_); rintro en w' ⟨rfl, rfl⟩))
            | (go_at_call 24; ((with_reducible refine (err_any g2 l2 _ _ hcur.r2).mono ?_); rintro en w' ⟨rfl, rfl⟩))
            | (go_at_call 24; ((with_reducible refine (err_any g3 l3 _ _ hcur.r3).mono ?_); rintro en w' ⟨rfl, rfl⟩))
            | (go_at_call 25; ((with_reducible refine (left_any g1 l1 _ _ hcur.r1).mono ?_); rintro en w' ⟨rfl, rfl⟩))
            | (go_at_call 25; ((with_reducible refine (left_any g2 l2 _ _ hcur.r2).mono ?_); rintro en w' ⟨rfl, rfl⟩))
            | (go_at_call 25; ((with_reducible refine (left_any g3 l3 _ _ hcur.r3).mono ?_); rintro en w' ⟨rfl, rfl⟩))
            | (go_at_call 12; ((with_reducible refine (putInt_nil n _ hn.out.1 hn.out.2).mono ?_); rintro en wp ⟨vp, rfl, hownp, hbp⟩; replace hcur := hcur.step hbp; clear hbp))
            | (go_at_call 14; ((with_reducible refine (putStr t _ ht.out).mono ?_); rintro en wp ⟨vp, rfl, hownp, hbp⟩; replace hcur := hcur.step hbp; clear hbp))
            | (go_at_call 16; ((with_reducible refine (putBool_any _ [] bb _ (Bs.nil _) (by simp)).mono ?_); rintro en wp ⟨vp, rfl, hownp, hbp⟩; replace hcur := hcur.step hbp; clear hbp))
            | (go_at_call 11; ((with_reducible refine (equal_yes hownp.bs (hs1.below hcur.below) rfl).mono ?_); rintro en we ⟨rfl, hbe⟩; replace hcur := hcur.step hbe; clear hbe hownp))
            | (go_at_call 11; ((with_reducible refine (equal_yes hownp.bs (hs2.below hcur.below) rfl).mono ?_); rintro en we ⟨rfl, hbe⟩; replace hcur := hcur.step hbe; clear hbe hownp))
            | (go_at_call 11; ((with_reducible refine (equal_yes hownp.bs (hs3.below hcur.below) rfl).mono ?_); rintro en we ⟨rfl, hbe⟩; replace hcur := hcur.step hbe; clear hbe hownp))
            | (go_at_call 10; ((with_reducible refine (works_any _).mono ?_); rintro en we ⟨rfl, hbe⟩; replace hcur := hcur.step hbe; clear hbe)))
          go_ret
          exact ⟨rfl, hcur.below⟩
        · have z3' : (e3 != 0) = true := by simpa using z3
          clear z3
          go_wp2_with (first
            | (go_at_call 24; ((with_reducible refine (err_any g1 l1 _ _ hcur.r1).mono ?_); rintro en w' ⟨rfl, rfl⟩))
            | (go_at_call 24; ((with_reducible refine (err_any g2 l2 _ _ hcur.r2).mono ?_); rintro en w' ⟨rfl, rfl⟩))
            | (go_at_call 24; ((with_reducible refine (err_any g3 l3 _ _ hcur.r3).mono ?_); rintro en w' ⟨rfl, rfl⟩))
            | (go_at_call 25; ((with_reducible refine (left_any g1 l1 _ _ hcur.r1).mono ?_); rintro en w' ⟨rfl, rfl⟩))
            | (go_at_call 25; ((with_reducible refine (left_any g2 l2 _ _ hcur.r2).mono ?_); rintro en w' ⟨rfl, rfl⟩))
            | (go_at_call 25; ((with_reducible refine (left_any g3 l3 _ _ hcur.r3).mono ?_); rintro en w' ⟨rfl, rfl⟩))
            | (go_at_call 12; ((with_reducible refine (putInt_nil n _ hn.out.1 hn.out.2).mono ?_); rintro en wp ⟨vp, rfl, hownp, hbp⟩; replace hcur := hcur.step hbp; clear hbp))
            | (go_at_call 14; ((with_reducible refine (putStr t _ ht.out).mono ?_); rintro en wp ⟨vp, rfl, hownp, hbp⟩; replace hcur := hcur.step hbp; clear hbp))
            | (go_at_call 16; ((with_reducible refine (putBool_any _ [] bb _ (Bs.nil _) (by simp)).mono ?_); rintro en wp ⟨vp, rfl, hownp, hbp⟩; replace hcur := hcur.step hbp; clear hbp))
            | (go_at_call 11; ((with_reducible refine (equal_yes hownp.bs (hs1.below hcur.below) rfl).mono ?_); rintro en we ⟨rfl, hbe⟩; replace hcur := hcur.step hbe; clear hbe hownp))
            | (go_at_call 11; ((with_reducible refine (equal_yes hownp.bs (hs2.below hcur.below) rfl).mono ?_); rintro en we ⟨rfl, hbe⟩; replace hcur := hcur.step hbe; clear hbe hownp))
            | (go_at_call 11; ((with_reducible refine (equal_yes hownp.bs (hs3.below hcur.below) rfl).mono ?_); rintro en we ⟨rfl, hbe⟩; replace hcur := hcur.step hbe; clear hbe hownp))
            | (go_at_call 10; ((with_reducible refine (works_any _).mono ?_); rintro en we ⟨rfl, hbe⟩; replace hcur := hcur.step hbe; clear hbe)))
          go_ret
          exact ⟨rfl, hcur.below⟩
    · have z1' : (e1 == 0) = false := by simpa using z1
      clear z1
      by_cases z2 : e2 = 0
      · obtain ⟨A2, k2, hle2, hcut2, hs2, ht⟩ := H2.out z2
        subst z2
        by_cases z3 : e3 = 0
        · obtain ⟨A3, k3, hle3, hcut3, hs3⟩ := H3.out z3
          subst z3
          go_wp2_with (first
            | (go_at_call 24; ((with_reducible refine (err_any g1 l1 _ _ hcur.r1).mono ?_); rintro en w' ⟨rfl, rfl⟩))
            | (go_at_call 24; ((with_reducible refine (err_any g2 l2 _ _ hcur.r2).mono ?_); rintro en w' ⟨rfl, rfl⟩))
            | (go_at_call 24; ((with_reducible refine (err_any g3 l3 _ _ hcur.r3).mono ?_); rintro en w' ⟨rfl, rfl⟩))
            | (go_at_call 25; ((with_reducible refine (left_any g1 l1 _ _ hcur.r1).mono ?_); rintro en w' ⟨rfl, rfl⟩))
            | (go_at_call 25; ((with_reducible refine (left_any g2 l2 _ _ hcur.r2).mono ?_); rintro en w' ⟨rfl, rfl⟩))
            | (go_at_call 25; ((with_reducible refine (left_any g3 l3 _ _ hcur.r3).mono ?_); rintro en w' ⟨rfl, rfl⟩))
            | (go_at_call 12; ((with_reducible refine (putInt_nil n _ hn.out.1 hn.out.2).mono ?_); rintro en wp ⟨vp, rfl, hownp, hbp⟩; replace hcur := hcur.step hbp; clear hbp))
            | (go_at_call 14; ((with_reducible refine (putStr t _ ht.out).mono ?_); rintro en wp ⟨vp, rfl, hownp, hbp⟩; replace hcur := hcur.step hbp; clear hbp))
            | (go_at_call 16; ((with_reducible refine (putBool_any _ [] bb _ (Bs.nil _) (by simp)).mono ?_); rintro en wp ⟨vp, rfl, hownp, hbp⟩; replace hcur := hcur.step hbp; clear hbp))
            | (go_at_call 11; ((with_reducible refine (equal_yes hownp.bs (hs1.below hcur.below) rfl).mono ?_); rintro en we ⟨rfl, hbe⟩; replace hcur := hcur.step hbe; clear hbe hownp))
            | (go_at_call 11; ((with_reducible refine (equal_yes hownp.bs (hs2.below hcur.below) rfl).mono ?_); rintro en we ⟨rfl, hbe⟩; replace hcur := hcur.step hbe; clear hbe hownp))
            | (go_at_call 11; ((with_reducible refine (equal_yes hownp.bs (hs3.below hcur.below) rfl).mono ?_); rintro en we ⟨rfl, hbe⟩; replace hcur := hcur.step hbe; clear hbe hownp))
            | (go_at_call 10; ((with_reducible refine (works_any _).mono ?_); rintro en we ⟨rfl, hbe⟩; replace hcur := hcur.step hbe; clear hbe)))
          go_ret
          exact ⟨rfl, hcur.below⟩
        · have z3' : (e3 != 0) = true := by simpa using z3
          clear z3
          go_wp2_with (first
            | (go_at_call 24; ((with_reducible refine (err_any g1 l1 _ _ hcur.r1).mono ?_); rintro en w' ⟨rfl, rfl⟩))
            | (go_at_call 24; ((with_reducible refine (err_any g2 l2 _ _ hcur.r2).mono ?_); rintro en w' ⟨rfl, rfl⟩))
            | (go_at_call 24; ((with_reducible refine (err_any g3 l3 _ _ hcur.r3).mono ?_); rintro en w' ⟨rfl, rfl⟩))
            | (go_at_call 25; ((with_reducible refine (left_any g1 l1 _ _ hcur.r1).mono ?_); rintro en w' ⟨rfl, rfl⟩))
            | (go_at_call 25; ((with_reducible refine (left_any g2 l2 _ _ hcur.r2).mono ?_); rintro en w' ⟨rfl, rfl⟩))
            | (go_at_call 25; ((with_reducible refine (left_any g3 l3 _ _ hcur.r3).mono ?_); rintro en w' ⟨rfl, rfl⟩))
            | (go_at_call 12; ((with_reducible refine (putInt_nil n _ hn.out.1 hn.out.2).mono ?_); rintro en wp ⟨vp, rfl, hownp, hbp⟩; replace hcur := hcur.step hbp; clear hbp))
            | (go_at_call 14; ((with_reducible refine (putStr t _ ht.out).mono ?_); rintro en wp ⟨vp, rfl, hownp, hbp⟩; replace hcur := hcur.step hbp; clear hbp))
            | (go_at_call 16; ((with_reducible refine (putBool_any _ [] bb _ (Bs.nil _) (by simp)).mono ?_); rintro en wp ⟨vp, rfl, hownp, hbp⟩; replace hcur := hcur.step hbp; clear hbp))
            | (go_at_call 11; ((with_reducible refine (equal_yes hownp.bs (hs1.below hcur.below) rfl).mono ?_); rintro en we ⟨rfl, hbe⟩; replace hcur := hcur.step hbe; clear hbe hownp))
            | (go_at_call 11; ((with_reducible refine (equal_yes hownp.bs (hs2.below hcur.below) rfl).mono ?_); rintro en we ⟨rfl, hbe⟩; replace hcur := hcur.step hbe; clear hbe hownp))
            | (go_at_call 11; ((with_reducible refine (equal_yes hownp.bs (hs3.below hcur.below) rfl).mono ?_); rintro en we ⟨rfl, hbe⟩; replace hcur := hcur.step hbe; clear hbe hownp))
            | (go_at_call 10; ((with_reducible refine (works_any _).mono ?_); rintro en we ⟨rfl, hbe⟩; replace hcur := hcur.step hbe; clear hbe)))
          go_ret
          exact ⟨rfl, hcur.below⟩
      · have z2' : (e2 == 0) = false := by simpa using z2
        clear z2
        by_cases z3 : e3 = 0
        · obtain ⟨A3, k3, hle3, hcut3, hs3⟩ := H3.out z3
          subst z3
          go_wp2_with (first
            | (go_at_call 24; ((with_reducible refine (err_any g1 l1 _ _ hcur.r1).mono ?_); rintro en w' ⟨rfl, rfl⟩))
            | (go_at_call 24; ((with_reducible refine (err_any g2 l2 _ _ hcur.r2).mono ?_); rintro en w' ⟨rfl, rfl⟩))
            | (go_at_call 24; ((with_reducible refine (err_any g3 l3 _ _ hcur.r3).mono ?_); rintro en w' ⟨rfl, rfl⟩))
            | (go_at_call 25; ((with_reducible refine (left_any g1 l1 _ _ hcur.r1).mono ?_); rintro en w' ⟨rfl, rfl⟩))
            | (go_at_call 25; ((with_reducible refine (left_any g2 l2 _ _ hcur.r2).mono ?_); rintro en w' ⟨rfl, rfl⟩))
            | (go_at_call 25; ((with_reducible refine (left_any g3 l3 _ _ hcur.r3).mono ?_); rintro en w' ⟨rfl, rfl⟩))
            | (go_at_call 12; ((with_reducible refine (putInt_nil n _ hn.out.1 hn.out.2).mono ?_); rintro en wp ⟨vp, rfl, hownp, hbp⟩; replace hcur := hcur.step hbp; clear hbp))
            | (go_at_call 14; ((with_reducible refine (putStr t _ ht.out).mono ?_); rintro en wp ⟨vp, rfl, hownp, hbp⟩; replace hcur := hcur.step hbp; clear hbp))
            | (go_at_call 16; ((with_reducible refine (putBool_any _ [] bb _ (Bs.nil _) (by simp)).mono ?_); rintro en wp ⟨vp, rfl, hownp, hbp⟩; replace hcur := hcur.step hbp; clear hbp))
            | (go_at_call 11; ((with_reducible refine (equal_yes hownp.bs (hs1.below hcur.below) rfl).mono ?_); rintro en we ⟨rfl, hbe⟩; replace hcur := hcur.step hbe; clear hbe hownp))
            | (go_at_call 11; ((with_reducible refine (equal_yes hownp.bs (hs2.below hcur.below) rfl).mono ?_); rintro en we ⟨rfl, hbe⟩; replace hcur := hcur.step hbe; clear hbe hownp))
            | (go_at_call 11; ((with_reducible refine (equal_yes hownp.bs (hs3.below hcur.below) rfl).mono ?_); rintro en we ⟨rfl, hbe⟩; replace hcur := hcur.step hbe; clear hbe hownp))
            | (go_at_call 10; ((with_reducible refine (works_any _).mono ?_); rintro en we ⟨rfl, hbe⟩; replace hcur := hcur.step hbe; clear hbe)))
          go_ret
          exact ⟨rfl, hcur.below⟩
        · have z3' : (e3 != 0) = true := by simpa using z3
          clear z3
          go_wp2_with (first
            | (go_at_call 24; ((with_reducible refine (err_any g1 l1 _ _ hcur.r1).mono ?_); rintro en w' ⟨rfl, rfl⟩))
            | (go_at_call 24; ((with_reducible refine (err_any g2 l2 _ _ hcur.r2).mono ?_); rintro en w' ⟨rfl, rfl⟩))
            | (go_at_call 24; ((with_reducible refine (err_any g3 l3 _ _ hcur.r3).mono ?_); rintro en w' ⟨rfl, rfl⟩))
            | (go_at_call 25; ((with_reducible refine (left_any g1 l1 _ _ hcur.r1).mono ?_); rintro en w' ⟨rfl, rfl⟩))
            | (go_at_call 25; ((with_reducible refine (left_any g2 l2 _ _ hcur.r2).mono ?_); rintro en w' ⟨rfl, rfl⟩))
            | (go_at_call 25; ((with_reducible refine (left_any g3 l3 _ _ hcur.r3).mono ?_); rintro en w' ⟨rfl, rfl⟩))
            | (go_at_call 12; ((with_reducible refine (putInt_nil n _ hn.out.1 hn.out.2).mono ?_); rintro en wp ⟨vp, rfl, hownp, hbp⟩; replace hcur := hcur.step hbp; clear hbp))
            | (go_at_call 14; ((with_reducible refine (putStr t _ ht.out).mono ?_); rintro en wp ⟨vp, rfl, hownp, hbp⟩; replace hcur := hcur.step hbp; clear hbp))
            | (go_at_call 16; ((with_reducible refine (putBool_any _ [] bb _ (Bs.nil _) (by simp)).mono ?_); rintro en wp ⟨vp, rfl, hownp, hbp⟩; replace hcur := hcur.step hbp; clear hbp))
            | (go_at_call 11; ((with_reducible refine (equal_yes hownp.bs (hs1.below hcur.below) rfl).mono ?_); rintro en we ⟨rfl, hbe⟩; replace hcur := hcur.step hbe; clear hbe hownp))
            | (go_at_call 11; ((with_reducible refine (equal_yes hownp.bs (hs2.below hcur.below) rfl).mono ?_); rintro en we ⟨rfl, hbe⟩; replace hcur := hcur.step hbe; clear hbe hownp))
            | (go_at_call 11; ((with_reducible refine (equal_yes hownp.bs (hs3.below hcur.below) rfl).mono ?_); rintro en we ⟨rfl, hbe⟩; replace hcur := hcur.step hbe; clear hbe hownp))
            | (go_at_call 10; ((with_reducible refine (works_any _).mono ?_); rintro en we ⟨rfl, hbe⟩; replace hcur := hcur.step hbe; clear hbe)))
          go_ret
          exact ⟨rfl, hcur.below⟩


theorem own : ownKnob Try.prog.godebug = none := by kernel_rfl
theorem laidOut : laidOutB Try.prog = true := by kernel_rfl

set_option maxRecDepth 100000 in
theorem lifted (os : Os) (started : os.Started) (H : Type) (enc : TypeId × Value → H) :
    ReturnsInHanded {} Try.checked os 6 .any (Rows.wireCanonicalSpec.pre6 enc Try.prog Try.f6 Rows.wireCanonicalRow.domain false) (Rows.wireCanonicalSpec.post enc Try.prog Try.f6 false true false false) := by
  refine returnsInHanded_of_change (C := Try.checked) own started (by kernel_rfl) Try.func6
    (ChangeSpec.witness6 (enc := enc) (C := Try.checked) false ⟨#[], #[.slice none 0 0], []⟩ 8 (by kernel_rfl) (by kernel_rfl) (by kernel_rfl) (by kernel_rfl)) ?_
  intro W base args ds gs before hval0 hW hcnd _
  have hval : ∀ (j : Nat) t v, Try.f6.params[j]? = some t → args[j]? = some v → Value.okWide Try.prog W .any base t v := hval0
  have hW' := hW
  obtain ⟨p, q, hA0, hV, rfl, hfz, hnd⟩ := hW
  have hA : DataW.TrodAll enc Try.prog W 0 (fun _ => true) true Try.f6.params.toList args.toList ds p := hA0
  rw [Try.params6] at hA hval
  obtain ⟨v0, vs0, d0, ds0, p0, q0, hargs, rfl, rfl, h0, r0⟩ := trodAll_cons hA
  obtain ⟨rfl, rfl, rfl⟩ := trodAll_nil r0
  obtain rfl : args = #[v0] := by cases args; simp_all
  obtain ⟨rfl, rfl⟩ := trodVars_none hV
  have k0 := h0
  have lt0 : ∀ x ∈ p0, x.block < W.heap.size := by obtain ⟨m, hm⟩ := k0; exact DataW.trod_lt m _ _ _ hm
  obtain ⟨l0, b0⟩ := open_bytes (hval 0 22 v0 rfl rfl) h0
  clear hA0 hval0
  refine (walk W v0 l0 b0).mono fun e W' ⟨he, bel⟩ => ?_
  subst he
  exact ⟨_, rfl, _, _, _, [], _, [], hW', trodAll_mk1 (shut_bool Try.underlying4 _), (trodAll_cons_mk (Below.trod laidOut (by kernel_rfl) (of_decide_eq_true (by kernel_rfl)) k0 bel lt0) trodAll_mk0), rfl, bel.frame _, fun h => by cases h⟩

theorem over : Rows.wireCanonicalRow.holds Try.pinned (OpenSpec.ofChange Rows.wireCanonicalSpec) :=
  OpenClaim.holds_of_wide 6 Try.f6 rfl rfl rfl rfl rfl rfl rfl ⟨rfl, rfl, rfl, rfl, rfl⟩ rfl rfl rfl rfl rfl (by kernel_rfl) Try.func6 (by kernel_rfl)
    (of_decide_eq_true (by kernel_rfl)) (by unfold Func.isWrapper; first | (rw [if_pos (by decide +kernel)]; kernel_rfl) | (rw [if_neg (by decide +kernel)]; exact ⟨rfl, rfl⟩))
    (fun os started H enc _ => lifted os started H enc)

/-- THE STATEMENT. -/
theorem proved : Rows.WireCanonicalSaid := over
#print axioms proved
end Go.Proofs.Ytimphdnnnhgcgaa.wireCanonical
