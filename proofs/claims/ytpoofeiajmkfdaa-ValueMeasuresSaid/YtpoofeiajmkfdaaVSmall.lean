/-
  The builders of the program: Null, Bool, Int, Text, List; cmp.Less and isNaN.
-/
import Derived.Test.YtpoofeiajmkfdaaVMap2
namespace Go.Proofs.Ytpoofeiajmkfdaa
open Go.RowKit

def intV (n : Int) : V := .mk 2 n ⟨#[]⟩ [] []
def textV (s : ByteArray) : V := .mk 3 0 s [] []
def boolV (b : Bool) : V := .mk 1 (if b = true then 1 else 0) ⟨#[]⟩ [] []
def listV (l : List V) : V := .mk 4 0 ⟨#[]⟩ l []

/-- Five stores into a row. -/
def put50 (w : World) (g : Nat) (c0 c1 c2 c3 c4 : Value) : World :=
  ((((w.setCell ⟨g, 0, none⟩ c0).setCell ⟨g, 1, none⟩ c1).setCell ⟨g, 2, none⟩ c2).setCell ⟨g, 3, none⟩ c3).setCell ⟨g, 4, none⟩ c4
section
variable {w wr : World} {cs : Array Value} {S : Nat → Prop} {g : Nat} {c0 c1 c2 c3 c4 : Value}
theorem Bx.set (h : Bx w cs wr) (i : Nat) (u : Value) : Bx w (cs.setIfInBounds i u) (wr.setCell ⟨w.heap.size, i, none⟩ u) := by
  have h1 : wr.heap[w.heap.size]? = some (.cells cs 26 (0, 0)) := h.block
  have hs := heap_setCell_same wr w.heap.size i cs 26 u h1
  refine ⟨h.os, h.tape, h.output, ?_, fun k hk => ?_⟩
  · have := h.size; simp [World.setCell]; omega
  · by_cases hkw : k = w.heap.size
    · subst hkw
      rw [hs, heap_alloc_new]
    · rw [Below.heap_setCell wr ⟨w.heap.size, i, none⟩ u k hkw, Below.block h k hk]
      rw [Below.heap_alloc _ _ _ (by omega), Below.heap_alloc _ _ _ (by omega)]
theorem Bx.put {a0 a1 a2 a3 a4 : Value} (h : Bx w #[a0, a1, a2, a3, a4] wr) (c0 c1 c2 c3 c4 : Value) : Bx w #[c0, c1, c2, c3, c4] (put50 wr w.heap.size c0 c1 c2 c3 c4) := by
  have := ((((h.set 0 c0).set 1 c1).set 2 c2).set 3 c3).set 4 c4
  simpa [put50] using this
theorem RdN_put50 {size n : Nat} {v : Value} {xs : List Value} (h : RdN wr S size v n xs) (hS : ∀ b, S b → b ≠ g) (hz : 0 < size) : RdN (put50 wr g c0 c1 c2 c3 c4) S size v n xs :=
  RdN_setCell (RdN_setCell (RdN_setCell (RdN_setCell (RdN_setCell h _ _ hS hz) _ _ hS hz) _ _ hS hz) _ _ hS hz) _ _ hS hz
theorem VsC_put50 {l : List V} {xs : List Value} (h : VsC wr S l xs) (hS : ∀ b, S b → b ≠ g) : VsC (put50 wr g c0 c1 c2 c3 c4) S l xs :=
  VsC_setCell (VsC_setCell (VsC_setCell (VsC_setCell (VsC_setCell h _ _ hS) _ _ hS) _ _ hS) _ _ hS) _ _ hS
theorem VC_put50 {v : V} {xs : List Value} (h : VC wr S v xs) (hS : ∀ b, S b → b ≠ g) : VC (put50 wr g c0 c1 c2 c3 c4) S v xs :=
  VC_setCell (VC_setCell (VC_setCell (VC_setCell (VC_setCell h _ _ hS) _ _ hS) _ _ hS) _ _ hS) _ _ hS
end

set_option maxRecDepth 100000 in
theorem vInt_any (n : Int) (w : World) (hn : -9223372036854775808 ≤ n ∧ n ≤ 9223372036854775807) : Calls Try.prog 22 #[.int .i64 n] w (NewVal w (intV n)) := by
  go_enter Try.func22, Try.ntmps22
  go_wp2_with fail
  obtain ⟨r0, r1, r2, r3, r4⟩ := (Bx.refl (w := w) (cs := #[.int .i64 2, .int .i64 n, .string ⟨#[]⟩, .slice none 0 0, .slice none 0 0])).cells
  refine bodyPost_ret (v := .agg #[.int .i64 2, .int .i64 n, .string ⟨#[]⟩, .slice none 0 0, .slice none 0 0]) (by simp [results, Try.results22, go_sem, r0, r1, r2, r3, r4]) rfl ⟨_, rfl, ?_, below_box _⟩
  exact VA.mk_ ⟨by omega, by omega, hn.1, hn.2, by simp [ByteArray.size], by simp, by simp⟩ RdN.none_ VsC.nil_ RdN.none_

set_option maxRecDepth 100000 in
theorem vText_any (s : ByteArray) (w : World) (hn : s.size ≤ 9223372036854775807) : Calls Try.prog 18 #[.string s] w (NewVal w (textV s)) := by
  go_enter Try.func18, Try.ntmps18
  go_wp2_with fail
  obtain ⟨r0, r1, r2, r3, r4⟩ := (Bx.refl (w := w) (cs := #[.int .i64 3, .int .i64 0, .string s, .slice none 0 0, .slice none 0 0])).cells
  refine bodyPost_ret (v := .agg #[.int .i64 3, .int .i64 0, .string s, .slice none 0 0, .slice none 0 0]) (by simp [results, Try.results18, go_sem, r0, r1, r2, r3, r4]) rfl ⟨_, rfl, ?_, below_box _⟩
  exact VA.mk_ ⟨by omega, by omega, by omega, by omega, hn, by simp, by simp⟩ RdN.none_ VsC.nil_ RdN.none_

set_option maxRecDepth 100000 in
theorem vNull_any (w : World) : Calls Try.prog 26 #[] w (NewVal w nullV) := by
  go_enter Try.func26, Try.ntmps26
  go_wp2_with fail
  obtain ⟨r0, r1, r2, r3, r4⟩ := (Bx.refl (w := w) (cs := #[.int .i64 0, .int .i64 0, .string ⟨#[]⟩, .slice none 0 0, .slice none 0 0])).cells
  exact bodyPost_ret (v := .agg #[.int .i64 0, .int .i64 0, .string ⟨#[]⟩, .slice none 0 0, .slice none 0 0]) (by simp [results, Try.results26, go_sem, r0, r1, r2, r3, r4]) rfl ⟨_, rfl, null_VA _ _, below_box _⟩

set_option maxRecDepth 100000 in
theorem vBool_any (b : Bool) (w : World) : Calls Try.prog 24 #[.bool b] w (NewVal w (boolV b)) := by
  cases b
  · go_enter Try.func24, Try.ntmps24
    go_wp2_with fail
    obtain ⟨r0, r1, r2, r3, r4⟩ := (Bx.refl (w := w) (cs := #[.int .i64 1, .int .i64 0, .string ⟨#[]⟩, .slice none 0 0, .slice none 0 0])).cells
    refine bodyPost_ret (v := .agg #[.int .i64 1, .int .i64 0, .string ⟨#[]⟩, .slice none 0 0, .slice none 0 0]) (by simp [results, Try.results24, go_sem, r0, r1, r2, r3, r4]) rfl ⟨_, rfl, ?_, below_box _⟩
    exact VA.mk_ ⟨by omega, by omega, by simp, by simp, by simp [ByteArray.size], by simp, by simp⟩ RdN.none_ VsC.nil_ RdN.none_
  · go_enter Try.func24, Try.ntmps24
    go_wp2_with fail
    obtain ⟨r0, r1, r2, r3, r4⟩ := (Bx.refl (w := w) (cs := #[.int .i64 1, .int .i64 1, .string ⟨#[]⟩, .slice none 0 0, .slice none 0 0])).cells
    refine bodyPost_ret (v := .agg #[.int .i64 1, .int .i64 1, .string ⟨#[]⟩, .slice none 0 0, .slice none 0 0]) (by simp [results, Try.results24, go_sem, r0, r1, r2, r3, r4]) rfl ⟨_, rfl, ?_, below_box _⟩
    exact VA.mk_ ⟨by omega, by omega, by simp, by simp, by simp [ByteArray.size], by simp, by simp⟩ RdN.none_ VsC.nil_ RdN.none_

theorem copyOf_any (l : List V) (hl : V.sizeL l ≤ 1099511627776) : CopyOf 28 l := fun u hu a W S hva =>
  copy_any (V.size u) u a W S (Nat.le_refl _) (by have := V.size_mem hu; omega) hva

set_option maxRecDepth 100000 in
theorem vList_any (l : List V) (iv : Value) (ics : List Value) (w : World) (S : Nat → Prop) (hl : V.sizeL l ≤ 1099511627776) (hr : RdN w S 5 iv l.length ics) (hvs : VsC w S l ics) :
    Calls Try.prog 16 #[iv] w (NewVal w (listV l)) := by
  have hll := V.length_sizeL l
  have C62 : Hid (∀ W, Below w.heap.size w W → Calls Try.prog 62 #[iv] W (NewVals W l)) := fun W hW =>
    copyAll_of l (copyOf_any l hl) _ ics W S (by omega) (hr.below hW (by omega)) (hvs.below hW)
  obtain ⟨A, c, rfl, _, _⟩ := hr.form
  clear hr hvs hl
  go_enter Try.func16, Try.ntmps16
  go_wp2_with fail
  refine (C62.out _ (below_box _)).mono ?_
  rintro e w1 ⟨v1, cs1, rfl, hr1, hv1, hb1⟩
  have HB1 := hid (Bx.refl.step hb1)
  have HR1 := hid hr1
  have HV1 := hid hv1
  obtain ⟨A1, c1, rfl, _, _⟩ := hr1.form
  clear hr1 hv1 hb1
  obtain ⟨r0, r1, r2, r3, r4⟩ := HB1.out.cells
  have g0 := HB1.out.free 0
  have g1 := HB1.out.free 1
  have g2 := HB1.out.free 2
  have g3 := HB1.out.free 3
  have g4 := HB1.out.free 4
  go_wp2_with fail
  have HP := hid (HB1.out.put (.int .i64 4) (.int .i64 0) (.string ⟨#[]⟩) (.slice A1 l.length c1) (.slice none 0 0))
  have HS : Hid (∀ b, (w.alloc (.cells #[.int .i64 0, .int .i64 0, .string ⟨#[]⟩, .slice none 0 0, .slice none 0 0] 26)).heap.size ≤ b → w.heap.size ≤ b ∧ b ≠ w.heap.size) := fun b hb => by simp at hb; omega
  clear r0 r1 r2 r3 r4
  have hcells := HP.out.cells
  change _ at hcells
  refine bodyPost_ret (v := .agg #[.int .i64 4, .int .i64 0, .string ⟨#[]⟩, .slice A1 l.length c1, .slice none 0 0]) (by
    obtain ⟨r0, r1, r2, r3, r4⟩ := hcells
    simp only [put50] at r0 r1 r2 r3 r4
    simp only [results, Try.results16, go_sem]
    simp [r0, r1, r2, r3, r4, go_sem]) rfl ⟨_, rfl, ?_, HP.out.below⟩
  exact VA.mk_ ⟨by omega, by omega, by omega, by omega, by simp [ByteArray.size], by simp, by simp⟩ ((RdN_put50 HR1.out (fun b hb => (HS.out b hb).2) (by omega)).more (fun b hb _ => (HS.out b hb).1) (by omega)) ((VsC_put50 HV1.out (fun b hb => (HS.out b hb).2)).more (fun b hb _ => (HS.out b hb).1)) RdN.none_

set_option maxRecDepth 100000 in
theorem nan_any (s : ByteArray) (w : World) : Calls Try.prog 100 #[.string s] w fun e w' => e = .returned (.bool false) ∧ w = w' := by
  go_enter Try.func100, Try.ntmps100
  go_wp2_with fail
  go_ret
  exact ⟨by simp, rfl⟩
end Go.Proofs.Ytpoofeiajmkfdaa
