/-
  spoil: its walk.
-/
import Derived.Test.YtpoofeiajmkfdaaVSpoil
namespace Go.Proofs.Ytpoofeiajmkfdaa
open Go.RowKit

theorem SimV.int0 {a : Int} {u : Value} (h : SimV (.int .i64 a) u) : ∃ b, u = .int .i64 b := by
  rcases h with rfl | ⟨_, _, rfl⟩ | ⟨_, h, _⟩
  · exact ⟨a, rfl⟩
  · exact ⟨99, rfl⟩
  · cases h
theorem RdN.inS {w : World} {S : Nat → Prop} {size n c b o : Nat} {xs : List Value} (h : RdN w S size (.slice (some ⟨b, o, none⟩) n c) n xs) (h0 : 0 < n) : S b := by
  obtain ⟨A, c', he, _, _, _, h4⟩ := h
  injection he with e1 _ _
  rcases h4 with h4 | ⟨b', o', h5, h6, _⟩
  · omega
  · rw [h5] at e1
    injection e1 with e1
    injection e1 with e1
    rw [e1]; exact h6

/-- In the midst of spoil: the box stands. -/
def SpB (S : Nat → Prop) (w : World) (box : Array Value) (wr : World) : Prop := Spo S w wr ∧ w.heap.size < wr.heap.size ∧ wr.heap[w.heap.size]? = some (.cells box 26 (0, 0))
section
variable {S : Nat → Prop} {w wr w1 : World} {box : Array Value}
theorem SpB.start : SpB S w box (w.alloc (.cells box 26)) := ⟨Spo.of_below (below_box _), by simp, heap_alloc_new w _⟩
theorem SpB.step (h : SpB S w box wr) (hs : ∀ b, S b → b < w.heap.size) (k : Spo S wr w1) : SpB S w box w1 :=
  ⟨h.1.trans k, Nat.lt_of_lt_of_le h.2.1 k.size, (k.block _ h.2.1 (fun e => by have := hs _ e; omega)).trans h.2.2⟩
theorem SpB.cell (h : SpB S w box wr) (i : Nat) : wr.cell? ⟨w.heap.size, i, none⟩ = box[i]? := cell_of_row wr w.heap.size i box 26 (0, 0) h.2.2
theorem SpB.free (h : SpB S w box wr) (hf : ∀ b, S b → b < w.heap.size ∧ Unf w b) : ∀ b, S b → b < wr.heap.size ∧ Unf wr b := fun b hb => ⟨Nat.lt_of_lt_of_le (hf b hb).1 h.1.size, h.1.frozen b (hf b hb).1 (hf b hb).2⟩
end

def SpoPost (S : Nat → Prop) (w : World) (e : Ending) (w' : World) : Prop := (∃ u, e = .returned u) ∧ Spo S w w'

set_option maxRecDepth 100000 in
set_option maxHeartbeats 1000000 in
theorem spoil_any (m : Nat) : ∀ (v : V) (a : Value) (w : World) (S : Nat → Prop), V.size v ≤ m → VA w S a v → (∀ b, S b → b < w.heap.size ∧ Unf w b) → Calls Try.prog 29 #[a] w (SpoPost S w) := by
  induction m with
  | zero => intro v a w S h; have := V.size_pos v; omega
  | succ m ih =>
    intro v a w S hm hv hS
    match v with
    | .mk k n s l ks =>
    obtain ⟨A, c, A', c', ics, rfl, ho, hl, hr, hvs, hk⟩ := hv.open_
    have HSL := hid (fun b (hb : S b) => (hS b hb).1)
    have HS := hid hS
    have HM : Hid (V.sizeL l ≤ m) := by rw [V.size_mk] at hm; show _ ≤ _; omega
    have HR := hid hr
    have HV := hid hvs
    have HK := hid hk
    have HKO := hid ho.2.2.2.2.2.1
    have hkl : ks.length ≤ 9223372036854775807 := by have := ho.2.2.2.2.2.2; omega
    have HIH := hid ih
    clear hv ho hr hvs hk hm ih hS
    go_enter Try.func29, Try.ntmps29
    go_wp2_with fail
    go_loopw [7] (fun v7 wr => ∃ i : Nat, i ≤ l.length ∧ v7 = .int .i64 (i : Int) ∧ SpB S w #[.int .i64 k, .int .i64 n, .string s, .slice A l.length c, .slice A' ks.length c'] wr) (fun v7 _ => l.length - (intOf v7).toNat)
    case atStart => exact ⟨0, Nat.zero_le _, rfl, SpB.start⟩
    case round =>
      obtain ⟨i, hi, rfl, hsp⟩ := hrel
      have HSP := hid hsp
      have p3 := hsp.cell 3
      have p4 := hsp.cell 4
      simp only [List.getElem?_toArray, List.getElem?_cons_succ, List.getElem?_cons_zero] at p3 p4
      clear hsp
      by_cases hlt : i < l.length
      · obtain ⟨ics', s1, hr'⟩ := HR.out.sim (by omega) HSP.out.1
        obtain ⟨l', hv', hsz⟩ := VsC.sim HV.out (fun v _ => VC.sim HSP.out.1 v) s1 HSP.out.1
        have hll : l'.length = l.length := by have := congrArg List.length hsz; simpa using this
        have hlt' : i < l'.length := by omega
        have hsm := sizeL_map l l' hsz
        have HM1 : Hid (V.size l'[i] ≤ m) := by have := V.size_mem (List.getElem_mem hlt'); have := HM.out; show _ ≤ _; omega
        obtain ⟨b, o, cc, k', n', s', A1, m1, c1, A2, m2, c2, he, q0, q1, q2, q3, q4, hva⟩ := items_at (by rw [hll]; exact hr') hv' i hlt'
        injection he with he1 he2 he3
        subst he1
        have HSB : Hid (S b) := RdN.inS HR.out (by omega)
        have C29 := hid (HIH.out l'[i] _ wr S HM1.out hva (HSP.out.free HS.out))
        clear he2 he3 hva s1 hr' hv' hsz hsm hll hlt' HM1
        go_wp2_with fail
        refine C29.out.mono ?_
        rintro e w1 ⟨⟨u, rfl⟩, hspo⟩
        have HS1 := hid (HSP.out.step HSL.out hspo)
        obtain ⟨u0, r0, t0⟩ := hspo.cell _ _ q0
        obtain ⟨x0, hx0⟩ := t0.int0
        subst hx0
        have HT0 : Hid (SimV (.int .i64 x0) (.int .i64 99)) := .inr (.inl ⟨x0, rfl, rfl⟩)
        have f0 := ((HS1.out.free HS.out) b HSB.out).2 (o + i * 5)
        clear p3 p4
        have p3 := HS1.out.cell 3
        simp only [List.getElem?_toArray, List.getElem?_cons_succ, List.getElem?_cons_zero] at p3
        have HN := hid (HS1.out.step HSL.out (Spo.set (p := ⟨b, o + i * 5, none⟩) rfl HSB.out r0 HT0.out))
        clear hspo t0 q0 q1 q2 q3 q4
        go_wp2_with fail
        go_roundw
        case rel => exact ⟨i + 1, by omega, by go_num, HN.out⟩
        case measure => simp [intOf]; omega
      · go_wp2_with fail
        go_loopw [25] (fun v25 wr => ∃ j : Nat, j ≤ ks.length ∧ v25 = .int .i64 (j : Int) ∧ SpB S w #[.int .i64 k, .int .i64 n, .string s, .slice A l.length c, .slice A' ks.length c'] wr) (fun v25 _ => ks.length - (intOf v25).toNat)
        case atStart => exact ⟨0, Nat.zero_le _, rfl, HSP.out⟩
        case round =>
          clear p3 p4 HSP
          obtain ⟨j, hj, rfl, hsp⟩ := hrel
          have HSP := hid hsp
          have p4 := hsp.cell 4
          simp only [List.getElem?_toArray, List.getElem?_cons_succ, List.getElem?_cons_zero] at p4
          clear hsp
          by_cases hjt : j < ks.length
          · obtain ⟨kcs, s1, hr'⟩ := HK.out.sim (by omega) HSP.out.1
            obtain ⟨ks', hks, hkl', _⟩ := s1.strs HKO.out
            subst hks
            have hjt' : j < ks'.length := by omega
            obtain ⟨b, o, cc, he, q⟩ := keys_at (by rw [hkl']; exact hr') j hjt'
            injection he with he1 he2 he3
            subst he1
            have HSB : Hid (S b) := RdN.inS HK.out (by omega)
            have f0 := ((HSP.out.free HS.out) b HSB.out).2 (o + j)
            have HN := hid (HSP.out.step HSL.out (Spo.set (p := ⟨b, o + j, none⟩) (u' := .string ⟨#[115, 112, 111, 105, 108, 116]⟩) rfl HSB.out q (.inr (.inr ⟨_, rfl, rfl⟩))))
            clear he2 he3 s1 hr' hkl'
            go_wp2_with fail
            go_roundw
            case rel => exact ⟨j + 1, by omega, by go_num, HN.out⟩
            case measure => simp [intOf]; omega
          · go_wp2_with fail
            exact bodyPost_end (v := .tuple #[]) (by simp [results, Try.results29, go_sem]) rfl ⟨⟨_, rfl⟩, HSP.out.1⟩
end Go.Proofs.Ytpoofeiajmkfdaa
