/-
  sortedPairs of the program: its walk.
-/
import Derived.Test.YtpoofeiajmkfdaaVPairs
namespace Go.Proofs.Ytpoofeiajmkfdaa
open Go.RowKit

theorem flat5 : ∀ (xs : List ID) (i c : Nat) (hi : i < xs.length) (_hc : c < 5), (xs.flatMap encI)[i * 5 + c]? = (encI xs[i])[c]?
  | [], i, c, hi, _ => absurd hi (by simp)
  | x :: xs, 0, c, _, hc => by
    rw [List.flatMap_cons, List.getElem?_append_left (by show _ < 5; omega)]; simp
  | x :: xs, i + 1, c, hi, hc => by
    have ih := flat5 xs i c (by simpa using hi) hc
    rw [List.flatMap_cons, List.getElem?_append_right (by show 5 ≤ _; omega)]
    rw [show (i + 1) * 5 + c - (encI x).length = i * 5 + c by show (i + 1) * 5 + c - 5 = _; omega, ih]
    simp

theorem items_data {w : World} {S : Nat → Prop} {ds : List ID} {iv : Value} (hr : RdN w S 5 iv ds.length (ds.flatMap encI)) (i : Nat) (hi : i < ds.length) :
    ∃ (b o c : Nat) (k n : Int) (s : ByteArray) (A : Option Addr) (m1 c1 : Nat) (A' : Option Addr) (m2 c2 : Nat), iv = .slice (some ⟨b, o, none⟩) ds.length c ∧ ds[i] = (k, n, s, (A, m1, c1), (A', m2, c2)) ∧
      w.cell? ⟨b, o + i * 5, none⟩ = some (.int .i64 k) ∧ w.cell? ⟨b, o + i * 5 + 1, none⟩ = some (.int .i64 n) ∧ w.cell? ⟨b, o + i * 5 + 2, none⟩ = some (.string s) ∧ w.cell? ⟨b, o + i * 5 + 3, none⟩ = some (.slice A m1 c1) ∧ w.cell? ⟨b, o + i * 5 + 4, none⟩ = some (.slice A' m2 c2) := by
  obtain ⟨A, c, rfl, _, _, _, h4⟩ := hr
  rcases h4 with h4 | ⟨b, o, rfl, hS, hc⟩
  · omega
  · have f := fun c (hc : c < 5) => flat5 ds i c hi hc
    rcases hx : ds[i] with ⟨k, n, s, ⟨A1, m1, c1⟩, ⟨A2, m2, c2⟩⟩
    refine ⟨b, o, c, k, n, s, A1, m1, c1, A2, m2, c2, rfl, rfl, hc _ _ ((f 0 (by omega)).trans ?_), hc _ _ ((f 1 (by omega)).trans ?_), hc _ _ ((f 2 (by omega)).trans ?_), hc _ _ ((f 3 (by omega)).trans ?_), hc _ _ ((f 4 (by omega)).trans ?_)⟩ <;> rw [hx] <;> rfl

set_option maxRecDepth 100000 in
set_option maxHeartbeats 1000000 in
theorem sortedPairs_any (ks : List ByteArray) (l : List V) (kv iv : Value) (ics : List Value) (w : World) (S : Nat → Prop) (hlen : ks.length = l.length) (hn : ks.length ≤ 1099511627776)
    (hk : RdN w S 1 kv ks.length (ks.map Value.string)) (hr : RdN w S 5 iv l.length ics) (hvs : VsC w S l ics) :
    Calls Try.prog 57 #[kv, iv] w (SortedPost w S ks l) := by
  obtain ⟨A, c, rfl, _, _⟩ := hk.form
  obtain ⟨ds, hd, rfl, hdv⟩ := hvs.data
  rw [← hd] at hr
  obtain ⟨A', c', rfl, _, _⟩ := hr.form
  have HK := hid (hk.more (S' := fun b => b < w.heap.size) (fun _ _ h => h) (by omega))
  have HR := hid (hr.more (S' := fun b => b < w.heap.size) (fun _ _ h => h) (by omega))
  have HDV : Hid (∀ i (h : i < l.length) (h' : i < ds.length), VC w (fun b => S b ∧ b < w.heap.size) l[i] (encI ds[i])) := fun i h h' => (hdv i h h').more fun b hb hb' => ⟨hb, hb'⟩
  have HLEN := hid hlen
  have HD := hid hd
  have hdl : ks.length ≤ ds.length := by omega
  have hdl2 : ds.length ≤ ks.length := by omega
  obtain ⟨Z, hZ, hmk⟩ := make67 ks.length hn
  have HP := hid (PartP.start w ks.length (ks.zip ds) hn Z hZ)
  have HXL : Hid (ks.length = (ks.zip ds).length) := by show _ = _; simp; omega
  have eg := eg89
  clear hk hr hvs hdv hlen hd hZ
  go_enter Try.func57, Try.ntmps57
  go_wp2_with fail
  clear hmk
  go_loopw [13] (fun v13 wr => ∃ i : Nat, i ≤ ks.length ∧ v13 = .int .i64 (i : Int) ∧ PartP w wr w.heap.size ks.length (ks.zip ds) i) (fun v13 _ => ks.length - (intOf v13).toNat)
  case atStart => exact ⟨0, Nat.zero_le _, rfl, HP.out⟩
  case round =>
    clear HP
    obtain ⟨i, hi, rfl, hpt⟩ := hrel
    have hb := hpt.below
    have hglt := hpt.lt
    have HPT := hid hpt
    clear hpt
    by_cases hlt : i < ks.length
    · have hlt2 : i < ds.length := by omega
      obtain ⟨b, o, cc, k', n', s', A1, m1, c1, A2, m2, c2, he, hx, q0, q1, q2, q3, q4⟩ := items_data (HR.out.below hb (by omega)) i hlt2
      injection he with he1 he2 he3
      subst he1
      obtain ⟨x1, x2, x3, he', hq⟩ := keys_all (HK.out.below hb (by omega)) (by omega)
      injection he' with he1' he2' he3'
      subst he1'
      have k0 := hq i hlt
      clear he2 he3 he2' he3' hq
      have HE : Hid (encD ((ks.zip ds)[i]'(by have := HXL.out; omega)) = [.string ks[i], .int .i64 k', .int .i64 n', .string s', .slice A1 m1 c1, .slice A2 m2 c2]) := by
        show _ = _
        rw [List.getElem_zip, hx]; rfl
      clear hx
      obtain ⟨t0, t1, t2, t3, t4, t5, r0, r1, r2, r3, r4, r5, hfr⟩ := HPT.out.spare hlt
      have f0 := hfr (i * 6)
      have f1 := hfr (i * 6 + 1)
      have f2 := hfr (i * 6 + 2)
      have f3 := hfr (i * 6 + 3)
      have f4 := hfr (i * 6 + 4)
      have f5 := hfr (i * 6 + 5)
      have HN := hid (HPT.out.next HXL.out hlt HE.out)
      clear hfr
      go_wp2_with fail
      go_roundw
      case rel => exact ⟨i + 1, by omega, by go_num, HN.out⟩
      case measure => simp [intOf]; omega
    · have hH := HPT.out.holds HXL.out hlt
      have hsz : (ks.zip ds).toArray.size = ks.length := HXL.out.symm
      have C := sort_any w.heap.size ks.length (ks.zip ds).toArray wr hH hglt (by rw [hsz]; omega)
      rw [hsz] at C
      have HC := hid C
      have HH := hid hH
      have HSZ := hid hsz
      clear C hH hsz
      go_wp2_with (go_at_call 88; refine HC.out.mono ?_; rintro e w1 ⟨rfl, d', n, os, hp, hs, rfl⟩; have HPP := hid hp; have HSS := hid hs; clear hp hs)
      go_ret
      have := sorted_post (w0 := w) (wr := wr) (S := fun b => S b ∧ b < w.heap.size) (ks := ks) (l := l) (ds := ds) (g := w.heap.size) (n := n) (os := os) (d' := d') HLEN.out HD.out (fun i h h' => (HDV.out i h h').below hb) (fun b hb => by omega) (Nat.le_refl _) hb HH.out hglt (by rw [HSZ.out]; exact HPP.out) (by rw [HSZ.out]; exact HSS.out)
      obtain ⟨g, ps, e1, e2, e3, e4, e5, e6, e7, e8⟩ := this
      exact ⟨g, ps, e1, e2, e3, e4, fun p hp => (e5 p hp).more fun b hb _ => hb.1, e6, e7, e8⟩
end Go.Proofs.Ytpoofeiajmkfdaa
