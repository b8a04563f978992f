/-
  encode and Encode of the program.
-/
import Derived.Test.YtpoofeiajmkfdaaVOwn
import Derived.Test.YtpoofeiajmkfdaaVFits2
import Derived.Test.YtpoofeiajmkfdaaVSame2
import Derived.Test.YtpoofeiajmkfdaaVOrd2
import Derived.Test.YtpoofeiajmkfdaaPut
namespace Go.Proofs.Ytpoofeiajmkfdaa
open Go.RowKit

namespace V
theorem enc_mk (k n : Int) (s : ByteArray) (l : List V) (ks : List ByteArray) : enc (mk k n s l ks) = Wi.enc k ++ (if k = 1 ∨ k = 2 ∨ k = 6 then Wi.enc n else if k = 3 then encText s else if k = 4 then Wi.enc l.length ++ encL l else if k = 5 then Wi.enc l.length ++ encP l ks else []) := by rw [enc]
theorem encL_nil : encL [] = [] := by rw [encL]
theorem encL_cons (v : V) (l : List V) : encL (v :: l) = enc v ++ encL l := by rw [encL]
theorem encP_nil (ks : List ByteArray) : encP [] ks = [] := by rw [encP]
theorem encP_cons (v : V) (l : List V) (k : ByteArray) (ks : List ByteArray) : encP (v :: l) (k :: ks) = encText k ++ enc v ++ encP l ks := by rw [encP]
theorem encL_app (a b : List V) : encL (a ++ b) = encL a ++ encL b := by
  induction a with
  | nil => simp [encL_nil]
  | cons v a ih => simp [encL_cons, ih]
theorem encL_take {l : List V} {i : Nat} (h : i < l.length) : encL (l.take (i + 1)) = encL (l.take i) ++ enc l[i] := by
  rw [take_succ_l l i h, encL_app, encL_cons, encL_nil, List.append_nil]
theorem encL_le (l : List V) (i : Nat) : (encL (l.take i)).length ≤ (encL l).length := by
  have := congrArg List.length (encL_app (l.take i) (l.drop i))
  rw [List.take_append_drop, List.length_append] at this
  omega
theorem encP_app : ∀ (a : List V) (p : List ByteArray) (b : List V) (q : List ByteArray), a.length = p.length → encP (a ++ b) (p ++ q) = encP a p ++ encP b q
  | [], [], b, q, _ => by simp [encP_nil]
  | v :: a, k :: p, b, q, h => by
    have := encP_app a p b q (by simpa using h)
    simp [encP_cons, this]
  | [], _ :: _, _, _, h => by simp at h
  | _ :: _, [], _, _, h => by simp at h
theorem encP_take {l : List V} {ks : List ByteArray} {i : Nat} (hl : l.length = ks.length) (h : i < l.length) (h' : i < ks.length) : encP (l.take (i + 1)) (ks.take (i + 1)) = encP (l.take i) (ks.take i) ++ encText ks[i] ++ enc l[i] := by
  rw [take_succ_l l i h, List.take_succ_eq_append_getElem h', encP_app _ _ _ _ (by simp; omega), encP_cons, encP_nil]
  simp
theorem encP_le {l : List V} {ks : List ByteArray} (hl : l.length = ks.length) (i : Nat) : (encP (l.take i) (ks.take i)).length ≤ (encP l ks).length := by
  have := congrArg List.length (encP_app (l.take i) (ks.take i) (l.drop i) (ks.drop i) (by simp; omega))
  rw [List.take_append_drop, List.take_append_drop, List.length_append] at this
  omega
end V

/-- append of bytes onto bytes of the call's own, with what it leaves. -/
theorem wpList_appG {w : World} {ops : Array Oper} {rest : List Oper} {o : Oper} {a : Act} {Q : Exit → Act → World → Prop} (hgd : o.guard = none) (s x : Operand)
    (ho : o.op = .call { callee := .builtin .append, args := #[s, x], argTypes := #[50, 50] })
    (base : Nat) (v y : Value) (xs news : List UInt8) (hs : a.eval s = v) (hown : OwnB w base v xs) (hx : a.eval x = y) (hrd : OwnB w 0 y news)
    (hl : xs.length + news.length ≤ 140737488355328) (hbase : base ≤ w.heap.size)
    (h : ∀ v' w', OwnB w' base v' (xs ++ news) → w.grownBy w' v.ownBlock → (v'.ownBlock = v.ownBlock ∨ v'.ownBlock = some w.heap.size) → wpList Try.prog ops Q rest (a.put o.dst v') w') : wpList Try.prog ops Q (o :: rest) a w := by
  obtain ⟨i0, hi, hz0, hz1, hz2⟩ := info_parts Try.info5
  refine wpList_appN w hgd s x 50 ho base 5 i0 (.int .u8 0) 1 1 Try.underlying50 hi hz0 hz1 hz2 rfl (by omega) v y _ _ (xs.map by8) (news.map by8) (fun _ => True) hs hown hx (RdN.of_own hrd (fun _ _ => trivial)) (one8 news) (by simp; omega) (by simp; omega) hbase ?_
  intro v' w' h1 _ h2 h3
  refine h v' w' ?_ h2 h3
  unfold OwnB Own
  rw [List.map_append, List.length_append]
  exact h1

/-- What encode leaves: b with the encoding, in b's own memory or in new memory. -/
def EncPost (w : World) (base : Nat) (bv : Value) (xs : List UInt8) (e : Ending) (w' : World) : Prop :=
  ∃ v', e = .returned v' ∧ OwnB w' base v' xs ∧ w.grownBy w' bv.ownBlock ∧ (v'.ownBlock = bv.ownBlock ∨ ∃ k, v'.ownBlock = some k ∧ w.heap.size ≤ k)

/-- The state of a walk: the box, and the slice that grows. -/
structure Es (w : World) (base : Nat) (bv : Value) (box : Array Value) (wr : World) (v : Value) (bs : List UInt8) : Prop where
  own : OwnB wr base v bs
  gr : w.grownBy wr bv.ownBlock
  ob : v.ownBlock = bv.ownBlock ∨ ∃ k, v.ownBlock = some k ∧ w.heap.size < k
  bx : wr.heap[w.heap.size]? = some (.cells box 26 (0, 0))
  lt : ∀ k, bv.ownBlock = some k → k < w.heap.size
  hb : base ≤ w.heap.size

section
variable {w wr w1 : World} {base : Nat} {bv v v' : Value} {box : Array Value} {bs bs' : List UInt8}
theorem Es.start (h : OwnB w base bv bs) (hb : base ≤ w.heap.size) : Es w base bv box (w.alloc (.cells box 26)) bv bs :=
  ⟨h.below (below_box _), ⟨rfl, rfl, rfl, by simp, fun k hk _ => Below.heap_alloc _ _ _ (by omega)⟩, .inl rfl, heap_alloc_new w _, fun k hk => (World.ownsRow.lt h k hk).2, hb⟩
theorem Es.size (h : Es w base bv box wr v bs) : w.heap.size < wr.heap.size := (Array.getElem?_eq_some_iff.1 h.bx).1
theorem Es.ble (h : Es w base bv box wr v bs) : base ≤ wr.heap.size := Nat.le_trans h.hb (Nat.le_of_lt h.size)
theorem grown_trans {o o' : Option Nat} {a b c : World} (h : a.grownBy b o) (k : b.grownBy c o') (ho : o' = o ∨ ∃ j, o' = some j ∧ a.heap.size ≤ j) : a.grownBy c o := by
  refine ⟨k.os.trans h.os, k.tape.trans h.tape, k.output.trans h.output, Nat.le_trans h.size k.size, fun j hj hne => ?_⟩
  refine (k.block j (Nat.lt_of_lt_of_le hj h.size) (fun e => ?_)).trans (h.block j hj hne)
  rcases ho with ho | ⟨i, ho, hi⟩
  · exact hne (by rw [e, ho])
  · rw [ho] at e; injection e with e; omega
theorem Es.step (h : Es w base bv box wr v bs) (hb : Below wr.heap.size wr w1) : Es w base bv box w1 v bs :=
  ⟨h.own.below hb, ⟨hb.os.trans h.gr.os, hb.tape.trans h.gr.tape, hb.output.trans h.gr.output, Nat.le_trans h.gr.size hb.size, fun k hk hne => (hb.block k (Nat.lt_of_lt_of_le hk h.gr.size)).trans (h.gr.block k hk hne)⟩, h.ob, (hb.block _ h.size).trans h.bx, h.lt, h.hb⟩
theorem Es.app (h : Es w base bv box wr v bs) (ho : OwnB w1 base v' bs') (hg : wr.grownBy w1 v.ownBlock) (hob : v'.ownBlock = v.ownBlock ∨ ∃ k, v'.ownBlock = some k ∧ wr.heap.size ≤ k) : Es w base bv box w1 v' bs' := by
  refine ⟨ho, grown_trans h.gr hg ?_, ?_, ?_, h.lt, h.hb⟩
  · rcases h.ob with e | ⟨k, e, hk⟩
    · exact .inl e
    · exact .inr ⟨k, e, by omega⟩
  · rcases hob with e | ⟨k, e, hk⟩
    · rw [e]; exact h.ob
    · exact .inr ⟨k, e, by have := h.size; omega⟩
  · refine (hg.block _ h.size (fun e => ?_)).trans h.bx
    rcases h.ob with e' | ⟨k, e', hk⟩
    · rw [e'] at e; have := h.lt _ e.symm; omega
    · rw [e'] at e; injection e with e; omega
theorem Es.app' (h : Es w base bv box wr v bs) (ho : OwnB w1 base v' bs') (hg : wr.grownBy w1 v.ownBlock) (hob : v'.ownBlock = v.ownBlock ∨ v'.ownBlock = some wr.heap.size) : Es w base bv box w1 v' bs' :=
  h.app ho hg (hob.imp id fun e => ⟨_, e, Nat.le_refl _⟩)
theorem Es.cells {a0 a1 a2 a3 a4 : Value} (h : Es w base bv #[a0, a1, a2, a3, a4] wr v bs) : wr.cell? ⟨w.heap.size, 0, none⟩ = some a0 ∧ wr.cell? ⟨w.heap.size, 1, none⟩ = some a1 ∧ wr.cell? ⟨w.heap.size, 2, none⟩ = some a2 ∧ wr.cell? ⟨w.heap.size, 3, none⟩ = some a3 ∧ wr.cell? ⟨w.heap.size, 4, none⟩ = some a4 := by
  have := fun i => cell_of_row wr w.heap.size i _ 26 (0, 0) h.bx
  exact ⟨this 0, this 1, this 2, this 3, this 4⟩
theorem Es.below (h : Es w base bv box wr v bs) (hv : ∀ k, bv.ownBlock = some k → base ≤ k) : Below base w wr := (Below.refl base w).grown h.gr h.hb hv
theorem Es.post (h : Es w base bv box wr v bs) : EncPost w base bv bs (.returned v) wr :=
  ⟨v, rfl, h.own, h.gr, h.ob.imp id fun ⟨k, e, hk⟩ => ⟨k, e, by omega⟩⟩
end

theorem RdN.keepB {w w' : World} {S : Nat → Prop} {base size n : Nat} {v : Value} {xs : List Value} (h : RdN w S size v n xs) (hS : ∀ b, S b → b < base) (hb : Below base w w') (hz : 0 < size) : RdN w' S size v n xs :=
  h.keep (fun _ h _ => h) (fun _p _ hp hc => (hb.cell (hS _ hp)).trans hc) hz
theorem VsC.keepB {w w' : World} {S : Nat → Prop} {base : Nat} {l : List V} {cs : List Value} (h : VsC w S l cs) (hS : ∀ b, S b → b < base) (hb : Below base w w') : VsC w' S l cs :=
  h.keep (fun _ h _ => h) (fun _p _ hp hc => (hb.cell (hS _ hp)).trans hc)

set_option maxRecDepth 100000 in
set_option maxHeartbeats 4000000 in
theorem encode_any (m : Nat) : ∀ (v : V) (bs : List UInt8) (bv a : Value) (w : World) (base : Nat) (S : Nat → Prop), V.size v ≤ m → V.wf v = true → OwnB w base bv bs → base ≤ w.heap.size → (∀ b, S b → b < base) → VA w S a v → bs.length + (V.enc v).length ≤ 549755813888 →
    Calls Try.prog 80 #[bv, a] w (EncPost w base bv (bs ++ V.enc v)) := by
  induction m with
  | zero => intro v bs bv a w base S h; have := V.size_pos v; omega
  | succ m ih =>
    intro v bs bv a w base S hm hwf hown hbase hS hv hbd
    match v with
    | .mk k n s l ks =>
    obtain ⟨A, c, A', c', ics, rfl, ho, hl, hr, hvs, hk⟩ := hv.open_
    have HR := hid hr
    have HV := hid hvs
    have HK := hid hk
    have HS := hid hS
    have hfc := V.fit_cases (V.wf_fit hwf)
    have HWI := hid (V.wf_items hwf)
    have HM : Hid (∀ u ∈ l, V.size u ≤ m) := fun u hu => by have := V.size_mem hu; rw [V.size_mk] at hm; omega
    have HOB := hid (fun k hk => (World.ownsRow.lt hown k hk).1)
    have HE := hid (Es.start (box := #[.int .i64 k, .int .i64 n, .string s, .slice A l.length c, .slice A' ks.length c']) hown hbase)
    have PI : Hid (∀ W, Calls Try.prog 105 #[.slice none 0 0, .int .i64 k] W (NewB W (Wi.enc k))) := fun W => putInt_nil k W ho.1 ho.2.1
    have PN : Hid (∀ W, Calls Try.prog 105 #[.slice none 0 0, .int .i64 n] W (NewB W (Wi.enc n))) := fun W => putInt_nil n W ho.2.2.1 ho.2.2.2.1
    have PL : Hid (∀ W, Calls Try.prog 105 #[.slice none 0 0, .int .i64 (l.length : Int)] W (NewB W (Wi.enc l.length))) := fun W => putInt_nil l.length W (by omega) (by omega)
    have henc := V.enc_mk k n s l ks
    have HIH := hid ih
    clear hv hr hvs hk hS ih hm hwf ho hown
    rcases hfc with h | h | h | h | h | h | h
    · -- null
      obtain ⟨rfl, rfl, _, hl0, hk0⟩ := h
      subst hl0 hk0
      simp only [show ¬((0:Int) = 1 ∨ (0:Int) = 2 ∨ (0:Int) = 6) by omega, show ¬ ((0:Int) = 3) by omega, show ¬ ((0:Int) = 4) by omega, show ¬ ((0:Int) = 5) by omega, if_false, List.append_nil] at henc
      have HX : Hid (V.enc (.mk 0 0 s [] []) = Wi.enc 0) := henc
      generalize V.enc (.mk 0 0 s [] []) = full at HX hbd ⊢
      have hlen : bs.length + (Wi.enc 0).length ≤ 549755813888 := by rw [← HX.out]; exact hbd
      generalize Wi.enc 0 = E0 at HX PI hlen
      clear henc hbd
      go_enter Try.func80, Try.ntmps80
      go_wp2_with fail
      refine (PI.out _).mono ?_
      intro e w1 hnew
      obtain ⟨A1, c1, rfl, hown1, hb1⟩ := hnew.form
      have HE1 := hid (HE.out.step hb1)
      clear hnew hb1
      go_wp2_with (at_builtin; refine wpList_appG rfl (.tmp 7) (.tmp 10) rfl base bv _ bs E0 rfl HE1.out.own rfl (hown1.lower (Nat.zero_le _)) (by omega) HE1.out.ble ?_; intro v2 w2 ho2 hg2 hob2; have HE2 := hid (HE1.out.app' ho2 hg2 hob2); clear ho2 hg2 hob2; obtain ⟨p0, p1, p2, p3, p4⟩ := HE2.out.cells)
      go_loopw [0, 42] (fun v0 v42 wr => v0 = v2 ∧ v42 = .int .i64 0 ∧ wr = w2) (fun _ _ _ => 0)
      case atStart => exact ⟨rfl, rfl, rfl⟩
      case round =>
        obtain ⟨rfl, rfl, rfl⟩ := hrel
        go_wp2_with fail
        go_ret
        rw [HX.out]
        exact HE2.out.post
    · -- bool
      obtain ⟨rfl, _, hl0, hk0⟩ := h
      subst hl0 hk0
      simp only at henc
      have HX : Hid (V.enc (.mk 1 n s [] []) = Wi.enc 1 ++ Wi.enc n) := henc
      generalize V.enc (.mk 1 n s [] []) = full at HX hbd ⊢
      have hlen : bs.length + ((Wi.enc 1).length + (Wi.enc n).length) ≤ 549755813888 := by rw [← List.length_append, ← HX.out]; exact hbd
      generalize Wi.enc 1 = E0 at HX PI hlen
      generalize Wi.enc n = E1 at HX PN hlen
      clear henc hbd
      go_enter Try.func80, Try.ntmps80
      go_wp2_with fail
      refine (PI.out _).mono ?_
      intro e w1 hnew
      obtain ⟨A1, c1, rfl, hown1, hb1⟩ := hnew.form
      have HE1 := hid (HE.out.step hb1)
      clear hnew hb1
      go_wp2_with (at_builtin; refine wpList_appG rfl (.tmp 7) (.tmp 10) rfl base bv _ bs E0 rfl HE1.out.own rfl (hown1.lower (Nat.zero_le _)) (by omega) HE1.out.ble ?_; intro v2 w2 ho2 hg2 hob2; have HE2 := hid (HE1.out.app' ho2 hg2 hob2); clear ho2 hg2 hob2; obtain ⟨p0, p1, p2, p3, p4⟩ := HE2.out.cells)
      refine (PN.out _).mono ?_
      intro e w3 hnew
      obtain ⟨A3, c3, rfl, hown3, hb3⟩ := hnew.form
      have HE3 := hid (HE2.out.step hb3)
      clear hnew hb3 p0 p1 p2 p3 p4
      go_wp2_with (at_builtin; refine wpList_appG rfl (.tmp 18) (.tmp 21) rfl base v2 _ (bs ++ E0) E1 rfl HE3.out.own rfl (hown3.lower (Nat.zero_le _)) (by simp only [List.length_append]; omega) HE3.out.ble ?_; intro v4 w4 ho4 hg4 hob4; have HE4 := hid (HE3.out.app' ho4 hg4 hob4); clear ho4 hg4 hob4; obtain ⟨p0, p1, p2, p3, p4⟩ := HE4.out.cells)
      go_loopw [0, 42] (fun v0 v42 wr => v0 = v4 ∧ v42 = .int .i64 0 ∧ wr = w4) (fun _ _ _ => 0)
      case atStart => exact ⟨rfl, rfl, rfl⟩
      case round =>
        obtain ⟨rfl, rfl, rfl⟩ := hrel
        go_wp2_with fail
        go_ret
        rw [HX.out]
        rw [← List.append_assoc]
        exact HE4.out.post
    · -- int
      obtain ⟨rfl, _, hl0, hk0⟩ := h
      subst hl0 hk0
      simp only at henc
      have HX : Hid (V.enc (.mk 2 n s [] []) = Wi.enc 2 ++ Wi.enc n) := henc
      generalize V.enc (.mk 2 n s [] []) = full at HX hbd ⊢
      have hlen : bs.length + ((Wi.enc 2).length + (Wi.enc n).length) ≤ 549755813888 := by rw [← List.length_append, ← HX.out]; exact hbd
      generalize Wi.enc 2 = E0 at HX PI hlen
      generalize Wi.enc n = E1 at HX PN hlen
      clear henc hbd
      go_enter Try.func80, Try.ntmps80
      go_wp2_with fail
      refine (PI.out _).mono ?_
      intro e w1 hnew
      obtain ⟨A1, c1, rfl, hown1, hb1⟩ := hnew.form
      have HE1 := hid (HE.out.step hb1)
      clear hnew hb1
      go_wp2_with (at_builtin; refine wpList_appG rfl (.tmp 7) (.tmp 10) rfl base bv _ bs E0 rfl HE1.out.own rfl (hown1.lower (Nat.zero_le _)) (by omega) HE1.out.ble ?_; intro v2 w2 ho2 hg2 hob2; have HE2 := hid (HE1.out.app' ho2 hg2 hob2); clear ho2 hg2 hob2; obtain ⟨p0, p1, p2, p3, p4⟩ := HE2.out.cells)
      refine (PN.out _).mono ?_
      intro e w3 hnew
      obtain ⟨A3, c3, rfl, hown3, hb3⟩ := hnew.form
      have HE3 := hid (HE2.out.step hb3)
      clear hnew hb3 p0 p1 p2 p3 p4
      go_wp2_with (at_builtin; refine wpList_appG rfl (.tmp 18) (.tmp 21) rfl base v2 _ (bs ++ E0) E1 rfl HE3.out.own rfl (hown3.lower (Nat.zero_le _)) (by simp only [List.length_append]; omega) HE3.out.ble ?_; intro v4 w4 ho4 hg4 hob4; have HE4 := hid (HE3.out.app' ho4 hg4 hob4); clear ho4 hg4 hob4; obtain ⟨p0, p1, p2, p3, p4⟩ := HE4.out.cells)
      go_loopw [0, 42] (fun v0 v42 wr => v0 = v4 ∧ v42 = .int .i64 0 ∧ wr = w4) (fun _ _ _ => 0)
      case atStart => exact ⟨rfl, rfl, rfl⟩
      case round =>
        obtain ⟨rfl, rfl, rfl⟩ := hrel
        go_wp2_with fail
        go_ret
        rw [HX.out]
        rw [← List.append_assoc]
        exact HE4.out.post
    · -- text
      obtain ⟨rfl, rfl, hl0, hk0⟩ := h
      subst hl0 hk0
      simp only [show ¬((3:Int) = 1 ∨ (3:Int) = 2 ∨ (3:Int) = 6) by omega, if_false, if_true] at henc
      have HX : Hid (V.enc (.mk 3 0 s [] []) = Wi.enc 3 ++ V.encText s) := henc
      generalize V.enc (.mk 3 0 s [] []) = full at HX hbd ⊢
      have hlen : bs.length + ((Wi.enc 3).length + (V.encText s).length) ≤ 549755813888 := by rw [← List.length_append, ← HX.out]; exact hbd
      have hst : (V.encText s).length = (Wi.enc s.size).length + s.size := by unfold V.encText; simp
      have PT : Hid (∀ W, Calls Try.prog 106 #[.slice none 0 0, .string s] W (NewB W (V.encText s))) := fun W => by
        have := putText_any (.slice none 0 0) [] s W (Bs.nil W) (by simp) (by omega)
        have e : ([] : List UInt8) ++ encText s.data.toList = V.encText s := by unfold encText V.encText; rw [← size_list]; rfl
        rwa [e] at this
      clear hst
      generalize Wi.enc 3 = E0 at HX PI hlen
      generalize V.encText s = E1 at HX PT hlen
      clear henc hbd
      go_enter Try.func80, Try.ntmps80
      go_wp2_with fail
      refine (PI.out _).mono ?_
      intro e w1 hnew
      obtain ⟨A1, c1, rfl, hown1, hb1⟩ := hnew.form
      have HE1 := hid (HE.out.step hb1)
      clear hnew hb1
      go_wp2_with (at_builtin; refine wpList_appG rfl (.tmp 7) (.tmp 10) rfl base bv _ bs E0 rfl HE1.out.own rfl (hown1.lower (Nat.zero_le _)) (by omega) HE1.out.ble ?_; intro v2 w2 ho2 hg2 hob2; have HE2 := hid (HE1.out.app' ho2 hg2 hob2); clear ho2 hg2 hob2; obtain ⟨p0, p1, p2, p3, p4⟩ := HE2.out.cells)
      refine (PT.out _).mono ?_
      intro e w3 hnew
      obtain ⟨A3, c3, rfl, hown3, hb3⟩ := hnew.form
      have HE3 := hid (HE2.out.step hb3)
      clear hnew hb3 p0 p1 p2 p3 p4
      go_wp2_with (at_builtin; refine wpList_appG rfl (.tmp 25) (.tmp 28) rfl base v2 _ (bs ++ E0) E1 rfl HE3.out.own rfl (hown3.lower (Nat.zero_le _)) (by simp only [List.length_append]; omega) HE3.out.ble ?_; intro v4 w4 ho4 hg4 hob4; have HE4 := hid (HE3.out.app' ho4 hg4 hob4); clear ho4 hg4 hob4; obtain ⟨p0, p1, p2, p3, p4⟩ := HE4.out.cells)
      go_loopw [0, 42] (fun v0 v42 wr => v0 = v4 ∧ v42 = .int .i64 0 ∧ wr = w4) (fun _ _ _ => 0)
      case atStart => exact ⟨rfl, rfl, rfl⟩
      case round =>
        obtain ⟨rfl, rfl, rfl⟩ := hrel
        go_wp2_with fail
        go_ret
        rw [HX.out]
        rw [← List.append_assoc]
        exact HE4.out.post
    · -- list
      obtain ⟨rfl, rfl, _, hk0⟩ := h
      subst hk0
      simp only [show ¬((4:Int) = 1 ∨ (4:Int) = 2 ∨ (4:Int) = 6) by omega, show ¬((4:Int) = 3) by omega, if_true, if_false] at henc
      have HX : Hid (V.enc (.mk 4 0 s l []) = Wi.enc 4 ++ (Wi.enc l.length ++ V.encL l)) := henc
      generalize V.enc (.mk 4 0 s l []) = full at HX hbd ⊢
      have hlen : bs.length + ((Wi.enc 4).length + ((Wi.enc l.length).length + (V.encL l).length)) ≤ 549755813888 := by have := congrArg List.length HX.out; simp only [List.length_append] at this; omega
      generalize Wi.enc 4 = E0 at HX PI hlen
      generalize Wi.enc l.length = E1 at HX PL hlen
      clear henc hbd
      go_enter Try.func80, Try.ntmps80
      go_wp2_with fail
      refine (PI.out _).mono ?_
      intro e w1 hnew
      obtain ⟨A1, c1, rfl, hown1, hb1⟩ := hnew.form
      have HE1 := hid (HE.out.step hb1)
      clear hnew hb1
      go_wp2_with (at_builtin; refine wpList_appG rfl (.tmp 7) (.tmp 10) rfl base bv _ bs E0 rfl HE1.out.own rfl (hown1.lower (Nat.zero_le _)) (by omega) HE1.out.ble ?_; intro v2 w2 ho2 hg2 hob2; have HE2 := hid (HE1.out.app' ho2 hg2 hob2); clear ho2 hg2 hob2; obtain ⟨p0, p1, p2, p3, p4⟩ := HE2.out.cells)
      refine (PL.out _).mono ?_
      intro e w3 hnew
      obtain ⟨A3, c3, rfl, hown3, hb3⟩ := hnew.form
      have HE3 := hid (HE2.out.step hb3)
      clear hnew hb3 p0 p1 p2 p3 p4
      go_wp2_with (at_builtin; refine wpList_appG rfl (.tmp 33) (.tmp 37) rfl base v2 _ (bs ++ E0) E1 rfl HE3.out.own rfl (hown3.lower (Nat.zero_le _)) (by simp only [List.length_append]; omega) HE3.out.ble ?_; intro v4 w4 ho4 hg4 hob4; have HE4 := hid (HE3.out.app' ho4 hg4 hob4); clear ho4 hg4 hob4; obtain ⟨p0, p1, p2, p3, p4⟩ := HE4.out.cells)
      clear HE HE1 HE2 HE3 PI PN PL hown1 hown3
      go_loopw [0, 42] (fun v0 v42 wr => ∃ i : Nat, i ≤ l.length ∧ v42 = .int .i64 (i : Int) ∧ Es w base bv #[.int .i64 4, .int .i64 0, .string s, .slice A l.length c, .slice A' 0 c'] wr v0 (bs ++ E0 ++ E1 ++ V.encL (l.take i))) (fun _ v42 _ => l.length - (intOf v42).toNat)
      case atStart => exact ⟨0, Nat.zero_le _, rfl, by simpa [V.encL_nil] using HE4.out⟩
      case round =>
        obtain ⟨i, hi, rfl, hes⟩ := hrel
        have HES := hid hes
        have HBW := hid (hes.below HOB.out)
        clear hes HE4
        by_cases hlt : i < l.length
        · obtain ⟨b, o, cc, k', n', s', A1, m1, c1, A2, m2, c2, he, q0, q1, q2, q3, q4, hva⟩ := items_at (HR.out.keepB HS.out HBW.out (by omega)) (HV.out.keepB HS.out HBW.out) i hlt
          injection he with he1 he2 he3
          subst he1
          clear he2 he3
          have hle := V.encL_le l (i + 1)
          rw [V.encL_take hlt, List.length_append] at hle
          have C80 := hid (HIH.out l[i] (bs ++ E0 ++ E1 ++ V.encL (l.take i)) u0 _ _ base S (HM.out _ (List.getElem_mem hlt)) (HWI.out _ (List.getElem_mem hlt)) (HES.out.own.below (below_box (.cells #[.int .i64 k', .int .i64 n', .string s', .slice A1 m1 c1, .slice A2 m2 c2] 26))) (by have := HES.out.ble; simp; omega) HS.out (hva.below (below_box _)) (by simp only [List.length_append]; omega))
          clear hva hle
          obtain ⟨p0, p1, p2, p3, p4⟩ := HES.out.cells
          have p0' := alloc_cell p0
          clear p1 p2 p3 p4
          go_wp2_with fail
          refine C80.out.mono ?_
          rintro e w5 ⟨v5, rfl, ho5, hg5, hob5⟩
          have HN : Hid (Es w base bv #[.int .i64 4, .int .i64 0, .string s, .slice (some ⟨b, o, none⟩) l.length c, .slice A' 0 c'] w5 v5 (bs ++ E0 ++ E1 ++ V.encL (l.take (i + 1)))) := by
            have := (HES.out.step (below_box _)).app ho5 hg5 hob5
            rw [V.encL_take hlt, ← List.append_assoc]
            exact this
          clear ho5 hg5 hob5 p0 p0' q0 q1 q2 q3 q4
          go_wp2_with fail
          go_roundw
          case rel => exact ⟨i + 1, by omega, by go_num, HN.out⟩
          case measure => simp [intOf]; omega
        · have e : l.take i = l := List.take_of_length_le (by omega)
          rw [e] at HES
          go_wp2_with fail
          go_ret
          rw [HX.out, ← List.append_assoc, ← List.append_assoc]
          exact HES.out.post
    · -- map
      obtain ⟨rfl, rfl, _, hkl, hris⟩ := h
      have HKL := hid hkl
      clear hkl hris
      simp only [show ¬((5:Int) = 1 ∨ (5:Int) = 2 ∨ (5:Int) = 6) by omega, show ¬((5:Int) = 3) by omega, show ¬((5:Int) = 4) by omega, if_true, if_false] at henc
      have HX : Hid (V.enc (.mk 5 0 s l ks) = Wi.enc 5 ++ (Wi.enc l.length ++ V.encP l ks)) := henc
      generalize V.enc (.mk 5 0 s l ks) = full at HX hbd ⊢
      have hlen : bs.length + ((Wi.enc 5).length + ((Wi.enc l.length).length + (V.encP l ks).length)) ≤ 549755813888 := by have := congrArg List.length HX.out; simp only [List.length_append] at this; omega
      generalize Wi.enc 5 = E0 at HX PI hlen
      generalize Wi.enc l.length = E1 at HX PL hlen
      clear henc hbd
      go_enter Try.func80, Try.ntmps80
      go_wp2_with fail
      refine (PI.out _).mono ?_
      intro e w1 hnew
      obtain ⟨A1, c1, rfl, hown1, hb1⟩ := hnew.form
      have HE1 := hid (HE.out.step hb1)
      clear hnew hb1
      go_wp2_with (at_builtin; refine wpList_appG rfl (.tmp 7) (.tmp 10) rfl base bv _ bs E0 rfl HE1.out.own rfl (hown1.lower (Nat.zero_le _)) (by omega) HE1.out.ble ?_; intro v2 w2 ho2 hg2 hob2; have HE2 := hid (HE1.out.app' ho2 hg2 hob2); clear ho2 hg2 hob2; obtain ⟨p0, p1, p2, p3, p4⟩ := HE2.out.cells)
      refine (PL.out _).mono ?_
      intro e w3 hnew
      obtain ⟨A3, c3, rfl, hown3, hb3⟩ := hnew.form
      have HE3 := hid (HE2.out.step hb3)
      clear hnew hb3 p0 p1 p2 p3 p4
      go_wp2_with (at_builtin; refine wpList_appG rfl (.tmp 33) (.tmp 37) rfl base v2 _ (bs ++ E0) E1 rfl HE3.out.own rfl (hown3.lower (Nat.zero_le _)) (by simp only [List.length_append]; omega) HE3.out.ble ?_; intro v4 w4 ho4 hg4 hob4; have HE4 := hid (HE3.out.app' ho4 hg4 hob4); clear ho4 hg4 hob4; obtain ⟨p0, p1, p2, p3, p4⟩ := HE4.out.cells)
      clear HE HE1 HE2 HE3 PI PN PL hown1 hown3
      go_loopw [0, 42] (fun v0 v42 wr => ∃ i : Nat, i ≤ l.length ∧ v42 = .int .i64 (i : Int) ∧ Es w base bv #[.int .i64 5, .int .i64 0, .string s, .slice A l.length c, .slice A' ks.length c'] wr v0 (bs ++ E0 ++ E1 ++ V.encP (l.take i) (ks.take i))) (fun _ v42 _ => l.length - (intOf v42).toNat)
      case atStart => exact ⟨0, Nat.zero_le _, rfl, by simpa [V.encP_nil] using HE4.out⟩
      case round =>
        obtain ⟨i, hi, rfl, hes⟩ := hrel
        have HES := hid hes
        have HBW := hid (hes.below HOB.out)
        clear hes HE4
        by_cases hlt : i < l.length
        · obtain ⟨b, o, cc, k', n', s', A1, m1, c1, A2, m2, c2, he, q0, q1, q2, q3, q4, hva⟩ := items_at (HR.out.keepB HS.out HBW.out (by omega)) (HV.out.keepB HS.out HBW.out) i hlt
          injection he with he1 he2 he3
          subst he1
          clear he2 he3
          have hlk : i < ks.length := by have := HKL.out; omega
          obtain ⟨b', o', cc', he', hkey⟩ := keys_at (HK.out.keepB HS.out HBW.out (by omega)) i hlk
          injection he' with he1' he2' he3'
          subst he1'
          clear he2' he3'
          have hle := V.encP_le HKL.out (i + 1)
          rw [V.encP_take HKL.out hlt hlk, List.length_append, List.length_append] at hle
          have hst : (V.encText ks[i]).length = (Wi.enc ks[i].size).length + ks[i].size := by unfold V.encText; simp
          have PT : Hid (∀ W, Calls Try.prog 106 #[.slice none 0 0, .string ks[i]] W (NewB W (V.encText ks[i]))) := fun W => by
            have := putText_any (.slice none 0 0) [] ks[i] W (Bs.nil W) (by simp) (by omega)
            have e : ([] : List UInt8) ++ encText ks[i].data.toList = V.encText ks[i] := by unfold encText V.encText; rw [← size_list]; rfl
            rwa [e] at this
          clear hst
          have HVA := hid hva
          have HTK := hid (V.encP_take HKL.out hlt hlk)
          generalize V.encText ks[i] = ET at PT HTK hle
          have hkey' := alloc_cell hkey
          clear hva
          obtain ⟨p0, p1, p2, p3, p4⟩ := HES.out.cells
          have p0' := alloc_cell p0
          have p4' := alloc_cell p4
          clear p1 p2 p3
          have HEA := hid (HES.out.step (below_box (.cells #[.int .i64 k', .int .i64 n', .string s', .slice A1 m1 c1, .slice A2 m2 c2] 26)))
          have hbxi : Hid ((wr.alloc (.cells #[.int .i64 k', .int .i64 n', .string s', .slice A1 m1 c1, .slice A2 m2 c2] 26)).heap[wr.heap.size]? = some (.cells #[.int .i64 k', .int .i64 n', .string s', .slice A1 m1 c1, .slice A2 m2 c2] 26 (0, 0))) := heap_alloc_new wr _
          go_wp2_with fail
          refine (PT.out _).mono ?_
          intro e w5 hnew
          obtain ⟨A5, c5, rfl, hown5, hb5⟩ := hnew.form
          have HE5 := hid (HEA.out.step hb5)
          have HBI : Hid (w5.heap[wr.heap.size]? = some (.cells #[.int .i64 k', .int .i64 n', .string s', .slice A1 m1 c1, .slice A2 m2 c2] 26 (0, 0))) := (hb5.block _ (by simp)).trans hbxi.out
          clear hnew hb5 p0 p0' p4 p4' q0 q1 q2 q3 q4 hkey hkey'
          go_wp2_with (at_builtin; refine wpList_appG rfl (.tmp 50) (.tmp 56) rfl base u0 _ _ ET rfl HE5.out.own rfl (hown5.lower (Nat.zero_le _)) (by simp only [List.length_append]; omega) HE5.out.ble ?_; intro v6 w6 ho6 hg6 hob6; have HE6 := hid (HE5.out.app' ho6 hg6 hob6); have HBJ : Hid (w6.heap[wr.heap.size]? = some (.cells #[.int .i64 k', .int .i64 n', .string s', .slice A1 m1 c1, .slice A2 m2 c2] 26 (0, 0))) := (hg6.block _ (Array.getElem?_eq_some_iff.1 HBI.out).1 (fun e => by have := (World.ownsRow.lt HES.out.own _ e.symm).2; omega)).trans HBI.out; clear ho6 hg6 hob6; have r0 := cell_of_row w6 wr.heap.size 0 _ 26 (0, 0) HBJ.out; have r1 := cell_of_row w6 wr.heap.size 1 _ 26 (0, 0) HBJ.out; have r2 := cell_of_row w6 wr.heap.size 2 _ 26 (0, 0) HBJ.out; have r3 := cell_of_row w6 wr.heap.size 3 _ 26 (0, 0) HBJ.out; have r4 := cell_of_row w6 wr.heap.size 4 _ 26 (0, 0) HBJ.out; simp only [List.getElem?_toArray, List.getElem?_cons_succ, List.getElem?_cons_zero] at r0 r1 r2 r3 r4)
          have HBW6 := hid (HE6.out.below HOB.out)
          have hva6 : VA w6 S (.agg #[.int .i64 k', .int .i64 n', .string s', .slice A1 m1 c1, .slice A2 m2 c2]) l[i] := by
            obtain ⟨cs, e, hc⟩ := HVA.out
            exact ⟨cs, e, VC.keep (fun _ h _ => h) (fun p _ hp hc => by
              have hlt := HS.out _ hp
              exact (HBW6.out.cell hlt).trans ((HBW.out.cell hlt).symm.trans hc)) _ cs hc⟩
          have C80 := hid (HIH.out l[i] _ v6 _ w6 base S (HM.out _ (List.getElem_mem hlt)) (HWI.out _ (List.getElem_mem hlt)) HE6.out.own HE6.out.ble HS.out hva6 (by simp only [List.length_append]; omega))
          clear hva6 hle
          refine C80.out.mono ?_
          rintro e w7 ⟨v7, rfl, ho7, hg7, hob7⟩
          have HN : Hid (Es w base bv #[.int .i64 5, .int .i64 0, .string s, .slice (some ⟨b, o, none⟩) l.length c, .slice (some ⟨b', o', none⟩) ks.length c'] w7 v7 (bs ++ E0 ++ E1 ++ V.encP (l.take (i + 1)) (ks.take (i + 1)))) := by
            have := HE6.out.app ho7 hg7 hob7
            rw [HTK.out, ← List.append_assoc, ← List.append_assoc]
            exact this
          clear ho7 hg7 hob7 r0 r1 r2 r3 r4
          go_wp2_with fail
          go_roundw
          case rel => exact ⟨i + 1, by omega, by go_num, HN.out⟩
          case measure => simp [intOf]; omega
        · have e : l.take i = l := List.take_of_length_le (by omega)
          have e' : ks.take i = ks := List.take_of_length_le (by have := HKL.out; omega)
          rw [e, e'] at HES
          go_wp2_with fail
          go_ret
          rw [HX.out, ← List.append_assoc, ← List.append_assoc]
          exact HES.out.post
    · -- future
      obtain ⟨rfl, _, hl0, hk0⟩ := h
      subst hl0 hk0
      simp only at henc
      have HX : Hid (V.enc (.mk 6 n s [] []) = Wi.enc 6 ++ Wi.enc n) := henc
      generalize V.enc (.mk 6 n s [] []) = full at HX hbd ⊢
      have hlen : bs.length + ((Wi.enc 6).length + (Wi.enc n).length) ≤ 549755813888 := by rw [← List.length_append, ← HX.out]; exact hbd
      generalize Wi.enc 6 = E0 at HX PI hlen
      generalize Wi.enc n = E1 at HX PN hlen
      clear henc hbd
      go_enter Try.func80, Try.ntmps80
      go_wp2_with fail
      refine (PI.out _).mono ?_
      intro e w1 hnew
      obtain ⟨A1, c1, rfl, hown1, hb1⟩ := hnew.form
      have HE1 := hid (HE.out.step hb1)
      clear hnew hb1
      go_wp2_with (at_builtin; refine wpList_appG rfl (.tmp 7) (.tmp 10) rfl base bv _ bs E0 rfl HE1.out.own rfl (hown1.lower (Nat.zero_le _)) (by omega) HE1.out.ble ?_; intro v2 w2 ho2 hg2 hob2; have HE2 := hid (HE1.out.app' ho2 hg2 hob2); clear ho2 hg2 hob2; obtain ⟨p0, p1, p2, p3, p4⟩ := HE2.out.cells)
      refine (PN.out _).mono ?_
      intro e w3 hnew
      obtain ⟨A3, c3, rfl, hown3, hb3⟩ := hnew.form
      have HE3 := hid (HE2.out.step hb3)
      clear hnew hb3 p0 p1 p2 p3 p4
      go_wp2_with (at_builtin; refine wpList_appG rfl (.tmp 18) (.tmp 21) rfl base v2 _ (bs ++ E0) E1 rfl HE3.out.own rfl (hown3.lower (Nat.zero_le _)) (by simp only [List.length_append]; omega) HE3.out.ble ?_; intro v4 w4 ho4 hg4 hob4; have HE4 := hid (HE3.out.app' ho4 hg4 hob4); clear ho4 hg4 hob4; obtain ⟨p0, p1, p2, p3, p4⟩ := HE4.out.cells)
      go_loopw [0, 42] (fun v0 v42 wr => v0 = v4 ∧ v42 = .int .i64 0 ∧ wr = w4) (fun _ _ _ => 0)
      case atStart => exact ⟨rfl, rfl, rfl⟩
      case round =>
        obtain ⟨rfl, rfl, rfl⟩ := hrel
        go_wp2_with fail
        go_ret
        rw [HX.out]
        rw [← List.append_assoc]
        exact HE4.out.post
end Go.Proofs.Ytpoofeiajmkfdaa
