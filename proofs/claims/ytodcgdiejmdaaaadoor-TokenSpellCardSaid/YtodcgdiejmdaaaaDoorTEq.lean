/-
  Lists of tokens in memory: how they read; equal.
-/
import Derived.Test.YtodcgdiejmdaaaaDoorTStr
import Derived.BigQuiet
namespace Go.Proofs.YtodcgdiejmdaaaaDoor
open Go.RowKit

/-- The slice v reads as the tokens l. -/
def RdT (w : World) (v : Value) (l : List Tk.T) : Prop :=
  ∃ A c, v = .slice A l.length c ∧ l.length ≤ c ∧ c ≤ maxLen ∧ (l = [] ∨ ∃ b o, A = some ⟨b, o, none⟩ ∧ ∀ i t, l[i]? = some t →
    w.cell? ⟨b, o + i * 4, none⟩ = some (.int .i64 t.k) ∧ w.cell? ⟨b, o + i * 4 + 1, none⟩ = some (.int .i64 t.at_) ∧ w.cell? ⟨b, o + i * 4 + 2, none⟩ = some (.string (byS t.t)) ∧ w.cell? ⟨b, o + i * 4 + 3, none⟩ = some (.int .i64 t.n))

theorem tksC_get : ∀ (l : List Tk.T) (i j : Nat) (t : Tk.T), l[i]? = some t → j < 4 → (tksC l)[i * 4 + j]? = (tkC t)[j]?
  | [], i, j, t, h, _ => by simp at h
  | u :: l, 0, j, t, h, hj => by
    simp at h; subst h
    show (tkC u ++ tksC l)[0 * 4 + j]? = _
    rw [List.getElem?_append_left (by simp [tkC]; omega)]; simp
  | u :: l, i + 1, j, t, h, hj => by
    show (tkC u ++ tksC l)[(i + 1) * 4 + j]? = _
    rw [List.getElem?_append_right (by simp [tkC]; omega)]
    rw [show (i + 1) * 4 + j - (tkC u).length = i * 4 + j by simp [tkC]; omega]
    exact tksC_get l i j t (by simpa using h) hj
theorem OwnT.rd {w : World} {base : Nat} {v : Value} {l : List Tk.T} (h : OwnT w base v l) : RdT w v l := by
  rcases h.2 with ⟨rfl, h0⟩ | ⟨k, cap, cur, rfl, hbg, hk, h1, h2, h3, h4⟩
  · have : l = [] := List.eq_nil_of_length_eq_zero h0
    subst this
    exact ⟨none, 0, rfl, Nat.le_refl _, Nat.zero_le _, .inl rfl⟩
  · refine ⟨_, cap, rfl, h1, h2, .inr ⟨k, 0, rfl, fun i t hi => ?_⟩⟩
    have hl : i < l.length := (List.getElem?_eq_some_iff.1 hi).1
    have key : ∀ j, j < 4 → w.cell? ⟨k, 0 + i * 4 + j, none⟩ = (tkC t)[j]? := by
      intro j hj
      rw [cellAt hk, ← tksC_get l i j t hi hj, ← h4, List.getElem?_take, if_pos (by omega), Nat.zero_add]
      simp
    exact ⟨(key 0 (by omega)).trans rfl, (key 1 (by omega)).trans rfl, (key 2 (by omega)).trans rfl, (key 3 (by omega)).trans rfl⟩
theorem RdT.keep {w w' : World} {v : Value} {l : List Tk.T} (h : RdT w v l) (hb : Below w.heap.size w w') : RdT w' v l := by
  obtain ⟨A, c, hv, h1, h2, h3⟩ := h
  refine ⟨A, c, hv, h1, h2, ?_⟩
  rcases h3 with h3 | ⟨b, o, hA, h3⟩
  · exact .inl h3
  · refine .inr ⟨b, o, hA, fun i t hi => ?_⟩
    obtain ⟨q0, q1, q2, q3⟩ := h3 i t hi
    have k : ∀ {a : Addr} {u : Value}, w.cell? a = some u → w'.cell? a = some u := fun hc => (hb.cell (World.block_lt_of_cell? w _ hc)).trans hc
    exact ⟨k q0, k q1, k q2, k q3⟩
theorem RdT.form' {w : World} {v : Value} {l : List Tk.T} (h : RdT w v l) : ∃ A c, v = .slice A l.length c := by
  obtain ⟨A, c, hv, _⟩ := h
  exact ⟨A, c, hv⟩
theorem RdT.at_ {w : World} {A : Option Addr} {n c : Nat} {l : List Tk.T} (h : RdT w (.slice A n c) l) (i : Nat) (hi : i < l.length) : ∃ b o, A = some ⟨b, o, none⟩ ∧
    w.cell? ⟨b, o + i * 4, none⟩ = some (.int .i64 l[i].k) ∧ w.cell? ⟨b, o + i * 4 + 1, none⟩ = some (.int .i64 l[i].at_) ∧ w.cell? ⟨b, o + i * 4 + 2, none⟩ = some (.string (byS l[i].t)) ∧ w.cell? ⟨b, o + i * 4 + 3, none⟩ = some (.int .i64 l[i].n) := by
  obtain ⟨A', c', hv, _, _, h3⟩ := h
  injection hv with e1 _ _
  subst e1
  rcases h3 with h3 | ⟨b, o, hA, h3⟩
  · subst h3; simp at hi
  · exact ⟨b, o, hA, h3 i l[i] (List.getElem?_eq_getElem hi)⟩

/-- The loop of equal. -/
def EqRel (l1 l2 : List Tk.T) (v : Value) : Prop := ∃ k : Nat, k ≤ l1.length ∧ v = .int .i64 (k : Int) ∧ Hid (l1.take k = l2.take k)

set_option maxRecDepth 100000 in
set_option maxHeartbeats 2000000 in
theorem equal_any (v1 v2 : Value) (l1 l2 : List Tk.T) (w : World) (h1 : RdT w v1 l1) (h2 : RdT w v2 l2) (hl : l1.length ≤ 1000000) (_hl2 : l2.length ≤ 1000000) :
    Calls Tryd.prog 13 #[v1, v2] w fun e w' => e = .returned (.bool (decide (l1 = l2))) ∧ ∃ q, w' = w.drewN q := by
  have H1 := hid h1
  have H2 := hid h2
  obtain ⟨A1, c1, rfl⟩ := h1.form'
  obtain ⟨A2, c2, rfl⟩ := h2.form'
  clear h1 h2
  by_cases hn : l1.length = l2.length
  · have hn' : ((l1.length : Int) != (l2.length : Int)) = false := by simp [hn]
    go_enter Tryd.func13, Tryd.ntmps13
    go_wp2_with fail
    go_loopw [13] (fun v13 wr => EqRel l1 l2 v13 ∧ ∃ q, wr = w.drewN q) (fun v13 _ => l1.length - (intOf v13).toNat)
    case atStart => exact ⟨⟨0, Nat.zero_le _, rfl, rfl⟩, 0, rfl⟩
    case round =>
      obtain ⟨⟨k, hk, rfl, ht⟩, q, rfl⟩ := hrel
      by_cases hlt : k < l1.length
      · obtain ⟨b1, o1, rfl, p0, p1, p2, p3⟩ := H1.out.at_ k hlt
        obtain ⟨b2, o2, rfl, q0, q1, q2, q3⟩ := H2.out.at_ k (by omega)
        have hlt2 : k < l2.length := by omega
        have hnt := neq_tok l1[k] l2[k]
        have hgt := guard_tok
        by_cases he : l1[k] = l2[k]
        · have hd : decide (l1[k] = l2[k]) = true := by simp [he]
          rw [hd] at hnt
          have HS : Hid (l1.take (k + 1) = l2.take (k + 1)) := by
            show _ = _
            rw [List.take_succ_eq_append_getElem hlt, List.take_succ_eq_append_getElem hlt2, ht.out, he]
          clear hd he
          go_wp2_with fail
          go_quiet (fail)
          go_wp2_with fail
          refine ⟨⟨⟨k + 1, by omega, by go_num, HS.out⟩, _, rfl⟩, ?_⟩
          simp [intOf]; omega
        · have hd : decide (l1[k] = l2[k]) = false := by simp [he]
          rw [hd] at hnt
          have HNE : Hid (l1 ≠ l2) := fun e => he (by simp [e])
          have hdd : Hid (decide (l1 = l2) = false) := by show _ = _; simpa using HNE.out
          clear hd he
          go_wp2_with fail
          go_quiet (fail)
          go_wp2_with fail
          go_ret
          rw [hdd.out]
          exact ⟨rfl, _, drewN_drewN _ _ _⟩
      · have hk2 : k = l1.length := by omega
        have hdd : Hid (decide (l1 = l2) = true) := by
          have h := ht.out
          rw [List.take_of_length_le (by omega), List.take_of_length_le (by omega)] at h
          show _ = _; simpa using h
        have hlt' : ¬ ((k : Int) < (l1.length : Int)) := by omega
        go_wp2_with fail
        go_ret
        rw [hdd.out]
        exact ⟨rfl, _, rfl⟩
  · have hn' : ((l1.length : Int) != (l2.length : Int)) = true := by simp; omega
    have hdd : decide (l1 = l2) = false := by
      have : l1 ≠ l2 := fun e => hn (by rw [e])
      simpa using this
    rw [hdd]
    go_enter Tryd.func13, Tryd.ntmps13
    go_wp2_with fail
    go_ret
    exact ⟨rfl, 0, rfl⟩
end Go.Proofs.YtodcgdiejmdaaaaDoor
