/-
  cmp.Less, slices.BinarySearch, isMap and Get of the program.
-/
import Derived.Test.YtpoofeiajmkfdaaVSmall
namespace Go.Proofs.Ytpoofeiajmkfdaa
open Go.RowKit

set_option maxRecDepth 100000 in
theorem less_any (a b : ByteArray) (w : World) : Calls Try.prog 99 #[.string a, .string b] w fun e w' => e = .returned (.bool (V.lt a b)) ∧ w = w' := by
  cases h1 : V.lt a b
  · have h1' : Op.bytesLess a.toList b.toList = false := h1
    clear h1
    go_enter Try.func99, Try.ntmps99
    go_wp2_with (go_at_call 119; refine (isNaN_str _ _).mono ?_; rintro e w' ⟨rfl, rfl⟩)
    go_ret
    exact ⟨rfl, rfl⟩
  · have h1' : Op.bytesLess a.toList b.toList = true := h1
    clear h1
    go_enter Try.func99, Try.ntmps99
    go_wp2_with (go_at_call 119; refine (isNaN_str _ _).mono ?_; rintro e w' ⟨rfl, rfl⟩)
    go_ret
    exact ⟨rfl, rfl⟩

/-- Where a key stands among rising keys, or where it would. -/
structure Sp (ks : List ByteArray) (key : ByteArray) (i : Nat) : Prop where
  le : i ≤ ks.length
  lo : ∀ t (h : t < ks.length), t < i → V.lt ks[t] key = true
  hi : ∀ t (h : t < ks.length), i ≤ t → V.lt ks[t] key = false

theorem rising_lt {ks : List ByteArray} (h : V.rising ks = true) : ∀ (a b : Nat) (hb : b < ks.length) (hab : a < b), V.lt (ks[a]'(by omega)) ks[b] = true := by
  intro a b hb hab
  induction b with
  | zero => omega
  | succ b ih =>
    have h2 := (rising_iff ks).1 h b hb
    by_cases e : a = b
    · subst e; exact h2
    · exact V.lt_trans (ih (by omega) (by omega)) h2

theorem bs_lo {ks : List ByteArray} {key : ByteArray} (hr : V.rising ks = true) {h : Nat} (hh : h < ks.length) (hx : V.lt ks[h] key = true) : ∀ t (ht : t < ks.length), t < h + 1 → V.lt ks[t] key = true := fun t ht hth => by
  by_cases e : t = h
  · subst e; exact hx
  · exact V.lt_trans (rising_lt hr t h hh (by omega)) hx
theorem bs_hi {ks : List ByteArray} {key : ByteArray} (hr : V.rising ks = true) {h : Nat} (hh : h < ks.length) (hx : V.lt ks[h] key = false) : ∀ t (ht : t < ks.length), h ≤ t → V.lt ks[t] key = false := fun t ht hth => by
  by_cases e : t = h
  · subst e; exact hx
  · cases hy : V.lt ks[t] key with
    | false => rfl
    | true => rw [V.lt_trans (rising_lt hr h t ht (by omega)) hy] at hx; cases hx

/-- What BinarySearch answers. -/
def Search (w : World) (ks : List ByteArray) (key : ByteArray) (e : Ending) (w' : World) : Prop :=
  ∃ i : Nat, e = .returned (.tuple #[.int .i64 (i : Int), .bool (decide (ks[i]? = some key))]) ∧ Sp ks key i ∧ Below w.heap.size w w'

set_option maxRecDepth 100000 in
theorem search_any (ks : List ByteArray) (key : ByteArray) (kv : Value) (w : World) (S : Nat → Prop) (hks : ks.length * 16 ≤ 140737488351232) (hrs : V.rising ks = true) (hr : RdN w S 1 kv ks.length (ks.map Value.string)) :
    Calls Try.prog 73 #[kv, .string key] w (Search w ks key) := by
  have HK := hid hr
  have HRS := hid hrs
  obtain ⟨A, c, rfl, _, _⟩ := hr.form
  clear hr hrs
  go_enter Try.func73, Try.ntmps73
  go_wp2_with fail
  go_loopw [7, 8] (fun v7 v8 wr => ∃ i j : Nat, i ≤ j ∧ j ≤ ks.length ∧ v7 = .int .i64 (i : Int) ∧ v8 = .int .i64 (j : Int) ∧ Hid (∀ t (h : t < ks.length), t < i → V.lt ks[t] key = true) ∧ Hid (∀ t (h : t < ks.length), j ≤ t → V.lt ks[t] key = false) ∧ Below w.heap.size w wr) (fun v7 v8 _ => (intOf v8).toNat - (intOf v7).toNat)
  case atStart => exact ⟨0, ks.length, Nat.zero_le _, Nat.le_refl _, rfl, rfl, fun t h h' => absurd h' (by omega), fun t h h' => absurd h' (by omega), Below.refl _ _⟩
  case round =>
    obtain ⟨i, j, hij, hj, rfl, rfl, hlo, hhi, hb⟩ := hrel
    by_cases hlt : i < j
    · have hh : (i + j) / 2 < ks.length := by omega
      obtain ⟨b, o, c', he, q0⟩ := keys_at (HK.out.below hb (by omega)) ((i + j) / 2) hh
      injection he with he1 he2 he3
      subst he1
      clear he2 he3
      cases hx : V.lt ks[(i + j) / 2] key
      · have HX := hid hx
        have HI := hid (bs_hi HRS.out hh hx)
        clear hx
        go_wp2_with fail
        refine (callb HX.out (less_any _ _ _)).mono ?_
        rintro e w' ⟨rfl, rfl⟩
        go_wp2_with fail
        go_roundw
        case rel => exact ⟨i, (i + j) / 2, by omega, by omega, rfl, by go_num, hlo, HI.out, hb⟩
        case measure => simp [intOf]; omega
      · have HX := hid hx
        have HI := hid (bs_lo HRS.out hh hx)
        clear hx
        go_wp2_with fail
        refine (callb HX.out (less_any _ _ _)).mono ?_
        rintro e w' ⟨rfl, rfl⟩
        go_wp2_with fail
        go_roundw
        case rel => exact ⟨(i + j) / 2 + 1, j, by omega, by omega, by go_num, rfl, HI.out, hhi, hb⟩
        case measure => simp [intOf]; omega
    · have hij' : i = j := by omega
      subst hij'
      have HSP : Hid (Sp ks key i) := ⟨hj, hlo.out, hhi.out⟩
      clear hlo hhi hij
      by_cases hin : i < ks.length
      · obtain ⟨b, o, c', he, q0⟩ := keys_at (HK.out.below hb (by omega)) i hin
        injection he with he1 he2 he3
        subst he1
        clear he2 he3
        by_cases hk : ks[i] = key
        · have HR : Hid (decide (ks[i]? = some key) = true) := by show _ = _; simp [List.getElem?_eq_getElem hin, hk]
          rw [hk] at q0
          clear hk
          go_wp2_with (go_at_call 100; refine (nan_any _ _).mono ?_; rintro e w' ⟨rfl, rfl⟩)
          exact bodyPost_ret (v := .tuple #[.int .i64 (i : Int), .bool true]) (by simp [results, Try.results73, go_sem]) rfl ⟨i, by rw [HR.out], HSP.out, hb⟩
        · have HR : Hid (decide (ks[i]? = some key) = false) := by show _ = _; simp [List.getElem?_eq_getElem hin, hk]
          have h3 : ¬ ks[i].toList = key.toList := fun e => hk (ba_ext e)
          have h4 : (ks[i].toList == key.toList) = false := by simp [h3]
          clear hk
          go_wp2_with (go_at_call 100; refine (nan_any _ _).mono ?_; rintro e w' ⟨rfl, rfl⟩)
          exact bodyPost_ret (v := .tuple #[.int .i64 (i : Int), .bool false]) (by simp [results, Try.results73, go_sem]) rfl ⟨i, by rw [HR.out], HSP.out, hb⟩
      · have HR : Hid (decide (ks[i]? = some key) = false) := by show _ = _; simp [List.getElem?_eq_none (Nat.le_of_not_lt hin)]
        go_wp2_with fail
        exact bodyPost_ret (v := .tuple #[.int .i64 (i : Int), .bool false]) (by simp [results, Try.results73, go_sem]) rfl ⟨i, by rw [HR.out], HSP.out, hb⟩

def isM (v : V) : Bool := decide (v.k = 5) && V.wf v

set_option maxRecDepth 100000 in
theorem isMap_any (v : V) (a : Value) (w : World) (S : Nat → Prop) (hv : VA w S a v) : Calls Try.prog 72 #[a] w fun e w' => e = .returned (.bool (isM v)) ∧ Below w.heap.size w w' := by
  match v with
  | .mk k n s l ks =>
  have C : Hid (∀ W, Below w.heap.size w W → Calls Try.prog 64 #[a] W fun e w' => e = .returned (.bool (V.wf (.mk k n s l ks))) ∧ Below W.heap.size W w') := fun W hW => wellFormed_any _ _ a W S (Nat.le_refl _) (hv.below hW)
  have HD : Hid (isM (.mk k n s l ks) = (decide (k = 5) && V.wf (.mk k n s l ks))) := by show _ = _; rfl
  generalize isM (.mk k n s l ks) = d at HD
  generalize V.wf (.mk k n s l ks) = x at HD C
  obtain ⟨A, c, A', c', ics, rfl, ho, hl, hr, hvs, hk⟩ := hv.open_
  clear hv ho hl hr hvs hk
  by_cases h5 : k = 5
  · subst h5
    go_enter Try.func72, Try.ntmps72
    go_wp2_with (go_at_call 64; refine (C.out _ (below_box _)).mono ?_; rintro e w1 ⟨rfl, hb1⟩)
    go_ret
    exact ⟨ret_bool (by rw [HD.out]; simp), bstep (below_box _) hb1⟩
  · go_enter Try.func72, Try.ntmps72
    go_wp2_with fail
    go_ret
    exact ⟨ret_bool (by rw [HD.out]; simp [h5]), below_box _⟩

section
variable {w wr : World} {cs ds : Array Value}
theorem Bx2.two (h : Bx2 w cs ds wr) : Bx (w.alloc (.cells cs 26)) ds wr := by
  unfold Bx
  have e : (w.alloc (.cells cs 26)).heap.size + 1 = w.heap.size + 1 + 1 := by simp
  rw [e]; exact h
theorem Bx2.of_two (h : Bx (w.alloc (.cells cs 26)) ds wr) : Bx2 w cs ds wr := by
  unfold Bx at h
  have e : (w.alloc (.cells cs 26)).heap.size + 1 = w.heap.size + 1 + 1 := by simp
  rw [e] at h; exact h
theorem Bx2.put2 {a0 a1 a2 a3 a4 : Value} (h : Bx2 w cs #[a0, a1, a2, a3, a4] wr) (c0 c1 c2 c3 c4 : Value) : Bx2 w cs #[c0, c1, c2, c3, c4] (put50 wr (w.heap.size + 1) c0 c1 c2 c3 c4) := by
  have := h.two.put c0 c1 c2 c3 c4
  have e : (w.alloc (.cells cs 26)).heap.size = w.heap.size + 1 := by simp
  rw [e] at this
  exact Bx2.of_two this
end
/-- The item under a key. -/
def getV : V → ByteArray → Option V
  | .mk _ _ _ l ks, key => (ks.zip l).find? (fun p => decide (p.1 = key)) |>.map Prod.snd
/-- What Get leaves. -/
def GetPost (w : World) (r : Option V) (e : Ending) (w' : World) : Prop := ∃ a, e = .returned (.tuple #[a, .bool r.isSome]) ∧ VA w' (fun b => w.heap.size ≤ b) a (r.getD nullV) ∧ Below w.heap.size w w'

theorem zip_find {ks : List ByteArray} {l : List V} {key : ByteArray} {i : Nat} (hl : l.length = ks.length) (hs : Sp ks key i) (hf : ks[i]? = some key) : ∃ (h : i < l.length), (ks.zip l).find? (fun p => decide (p.1 = key)) = some (key, l[i]) := by
  have hi : i < ks.length := (List.getElem?_eq_some_iff.1 hf).1
  have hk : ks[i] = key := (List.getElem?_eq_some_iff.1 hf).2
  refine ⟨by omega, ?_⟩
  rw [List.find?_eq_some_iff_getElem]
  refine ⟨by simp, i, by simp; omega, by simp [hk], fun j hj => ?_⟩
  have := hs.lo j (by omega) hj
  have hne : ks[j] ≠ key := fun e => by rw [e, V.lt_irrefl] at this; cases this
  simp [hne]
theorem zip_none {ks : List ByteArray} {l : List V} {key : ByteArray} {i : Nat} (hs : Sp ks key i) (hr : V.rising ks = true) (hf : ks[i]? ≠ some key) : (ks.zip l).find? (fun p => decide (p.1 = key)) = none := by
  rw [List.find?_eq_none]
  intro p hp hpk
  have hpk : p.1 = key := by simpa using hpk
  have hmem : p.1 ∈ ks := (List.of_mem_zip (a := p.1) (b := p.2) hp).1
  obtain ⟨j, hj, e⟩ := List.getElem_of_mem hmem
  rw [hpk] at e
  rcases Nat.lt_trichotomy j i with h | h | h
  · have := hs.lo j hj h
    rw [e, V.lt_irrefl] at this; cases this
  · subst h
    exact hf (by rw [List.getElem?_eq_getElem hj, e])
  · have h1 := hs.hi i (by omega) (Nat.le_refl _)
    have h2 := rising_lt hr i j hj h
    rw [e, h1] at h2; cases h2

set_option maxRecDepth 100000 in
theorem get_any (v : V) (key : ByteArray) (a : Value) (w : World) (S : Nat → Prop) (hsz : V.size v ≤ 1099511627776) (hv : VA w S a v) :
    Calls Try.prog 40 #[a, .string key] w (GetPost w (if isM v = true then getV v key else none)) := by
  have HVv := hid hv
  match v with
  | .mk k n s l ks =>
  have C72 : Hid (∀ W, Below w.heap.size w W → Calls Try.prog 72 #[a] W fun e w' => e = .returned (.bool (isM (.mk k n s l ks))) ∧ Below W.heap.size W w') := fun W hW => isMap_any _ a W S (HVv.out.below hW)
  obtain ⟨A, c, A', c', ics, rfl, ho, hl, hr, hvs, hk⟩ := hv.open_
  have HR := hid hr
  have HV := hid hvs
  have HK := hid hk
  have hks : ks.length * 16 ≤ 140737488351232 := ho.2.2.2.2.2.2
  have HSZ : Hid (∀ u ∈ l, V.size u ≤ 1099511627776) := fun u hu => by have := V.size_mem hu; rw [V.size_mk] at hsz; omega
  cases hm : isM (.mk k n s l ks)
  · have HX := hid hm
    generalize isM (.mk k n s l ks) = x at HX C72
    clear hv ho hr hvs hk hm hsz HVv
    go_enter Try.func40, Try.ntmps40
    go_wp2_with fail
    refine (callb HX.out (C72.out _ (bstep (below_box _) (below_box _)))).mono ?_
    rintro e w1 ⟨rfl, hb1⟩
    have HB1 := hid (Bx2.refl.step hb1)
    obtain ⟨_, r0, r1, r2, r3, r4⟩ := HB1.out.cells
    have g0 := HB1.out.free2 0
    have g1 := HB1.out.free2 1
    have g2 := HB1.out.free2 2
    have g3 := HB1.out.free2 3
    have g4 := HB1.out.free2 4
    go_wp2_with fail
    have HP := hid (HB1.out.put2 (.int .i64 0) (.int .i64 0) (.string ⟨#[]⟩) (.slice none 0 0) (.slice none 0 0))
    clear r0 r1 r2 r3 r4
    have hcells := HP.out.cells.2
    refine bodyPost_ret (v := .tuple #[.agg #[.int .i64 0, .int .i64 0, .string ⟨#[]⟩, .slice none 0 0, .slice none 0 0], .bool false]) (by
      obtain ⟨r0, r1, r2, r3, r4⟩ := hcells
      simp only [put50] at r0 r1 r2 r3 r4
      simp only [results, Try.results40, go_sem]
      simp [r0, r1, r2, r3, r4, go_sem]) rfl ?_
    exact ⟨_, rfl, null_VA _ _, HP.out.below⟩
  · have hwf : V.wf (.mk k n s l ks) = true := by unfold isM at hm; simp at hm; exact hm.2
    have hk5 : k = 5 := by unfold isM at hm; simp only [Bool.and_eq_true] at hm; exact of_decide_eq_true hm.1
    have hfc := V.fit_cases (V.wf_fit hwf)
    have hlen : l.length = ks.length ∧ V.rising ks = true := by
      rcases hfc with h | h | h | h | h | h | h <;> first | (exfalso; omega) | exact ⟨h.2.2.2.1, h.2.2.2.2⟩
    have HLEN := hid hlen.1
    have HRISE := hid hlen.2
    have HX := hid hm
    have C73 : Hid (∀ W, Below w.heap.size w W → Calls Try.prog 73 #[.slice A' ks.length c', .string key] W (Search W ks key)) := fun W hW => search_any ks key _ W S hks hlen.2 (HK.out.below hW (by omega))
    have HD : Hid (getV (.mk k n s l ks) key = ((ks.zip l).find? (fun p => decide (p.1 = key))).map Prod.snd) := by show _ = _; rfl
    simp only [if_true]
    generalize getV (.mk k n s l ks) key = d at HD
    generalize isM (.mk k n s l ks) = x at HX C72
    clear hv ho hr hvs hk hm hsz HVv hlen hfc hwf hk5
    go_enter Try.func40, Try.ntmps40
    go_wp2_with fail
    refine (callb HX.out (C72.out _ (bstep (below_box _) (below_box _)))).mono ?_
    rintro e w1 ⟨rfl, hb1⟩
    have HB1 := hid (Bx2.refl.step hb1)
    obtain ⟨⟨p0, p1, p2, p3, p4⟩, r0, r1, r2, r3, r4⟩ := HB1.out.cells
    clear hb1
    go_wp2_with fail
    refine (C73.out _ HB1.out.below).mono ?_
    rintro e w2 ⟨i, rfl, hsp, hb2⟩
    have HB2 := hid (HB1.out.step hb2)
    have HSP := hid hsp
    have hile := hsp.le
    clear hb2 hsp p0 p1 p2 p3 p4 r0 r1 r2 r3 r4
    by_cases hf : ks[i]? = some key
    · have hdf : decide (ks[i]? = some key) = true := by simp [hf]
      rw [hdf]
      obtain ⟨hil, hfind⟩ := zip_find HLEN.out HSP.out hf
      have HFIND := hid hfind
      clear hdf hf hfind
      obtain ⟨⟨p0, p1, p2, p3, p4⟩, r0, r1, r2, r3, r4⟩ := HB2.out.cells
      obtain ⟨b, o, cc, k', n', s', A1, m1, c1, A2, m2, c2, he, q0, q1, q2, q3, q4, hva⟩ := items_at (HR.out.below HB2.out.below (by omega)) (HV.out.below HB2.out.below) i hil
      injection he with he1 he2 he3
      subst he1
      clear he2 he3
      have HVA := hid hva
      have C28 := hid (copy_any _ l[i] _ w2 S (Nat.le_refl _) (HSZ.out l[i] (List.getElem_mem hil)) hva)
      clear hva
      go_wp2_with fail
      refine C28.out.mono ?_
      rintro e w3 ⟨a3, rfl, hva3, hb3⟩
      have HB3 := hid (HB2.out.step hb3)
      obtain ⟨cs3, rfl, hc3⟩ := hva3
      obtain ⟨k3, n3, s3, A3, m3, c3, A4, m4, c4, rfl⟩ := hc3.form
      have HC3 := hid hc3
      clear hc3 hb3 p0 p1 p2 p3 p4 r0 r1 r2 r3 r4 q0 q1 q2 q3 q4
      obtain ⟨_, r0, r1, r2, r3, r4⟩ := HB3.out.cells
      have g0 := HB3.out.free2 0
      have g1 := HB3.out.free2 1
      have g2 := HB3.out.free2 2
      have g3 := HB3.out.free2 3
      have g4 := HB3.out.free2 4
      go_wp2_with fail
      have HP := hid (HB3.out.put2 (.int .i64 k3) (.int .i64 n3) (.string s3) (.slice A3 m3 c3) (.slice A4 m4 c4))
      have hsz2 := HB2.out.size
      have HVP := hid (VC_put50 (g := w.heap.size + 1) (c0 := .int .i64 k3) (c1 := .int .i64 n3) (c2 := .string s3) (c3 := .slice A3 m3 c3) (c4 := .slice A4 m4 c4) HC3.out (fun b (hb : w2.heap.size ≤ b) => by omega))
      clear r0 r1 r2 r3 r4
      have hcells := HP.out.cells.2
      refine bodyPost_ret (v := .tuple #[.agg #[.int .i64 k3, .int .i64 n3, .string s3, .slice A3 m3 c3, .slice A4 m4 c4], .bool true]) (by
        obtain ⟨r0, r1, r2, r3, r4⟩ := hcells
        simp only [put50] at r0 r1 r2 r3 r4
        simp only [results, Try.results40, go_sem]
        simp [r0, r1, r2, r3, r4, go_sem]) rfl ?_
      rw [HD.out, HFIND.out]
      exact ⟨_, rfl, ⟨_, rfl, HVP.out.more (fun b hb _ => by have := hsz2; omega)⟩, HP.out.below⟩
    · have hdf : decide (ks[i]? = some key) = false := by simp [hf]
      rw [hdf]
      have HNONE := hid (zip_none (l := l) HSP.out HRISE.out hf)
      clear hdf hf
      obtain ⟨_, r0, r1, r2, r3, r4⟩ := HB2.out.cells
      have g0 := HB2.out.free2 0
      have g1 := HB2.out.free2 1
      have g2 := HB2.out.free2 2
      have g3 := HB2.out.free2 3
      have g4 := HB2.out.free2 4
      go_wp2_with fail
      have HP := hid (HB2.out.put2 (.int .i64 0) (.int .i64 0) (.string ⟨#[]⟩) (.slice none 0 0) (.slice none 0 0))
      clear r0 r1 r2 r3 r4
      have hcells := HP.out.cells.2
      refine bodyPost_ret (v := .tuple #[.agg #[.int .i64 0, .int .i64 0, .string ⟨#[]⟩, .slice none 0 0, .slice none 0 0], .bool false]) (by
        obtain ⟨r0, r1, r2, r3, r4⟩ := hcells
        simp only [put50] at r0 r1 r2 r3 r4
        simp only [results, Try.results40, go_sem]
        simp [r0, r1, r2, r3, r4, go_sem]) rfl ?_
      rw [HD.out, HNONE.out]
      exact ⟨_, rfl, null_VA _ _, HP.out.below⟩
end Go.Proofs.Ytpoofeiajmkfdaa
