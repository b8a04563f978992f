/-
  Quote of the program, by its contract.
-/
import Derived.Test.YtodcgdiejmdaaaaDoorTQPlain
import Derived.Test.YtodcgdiejmdaaaaDoorTLit
import Derived.Deep.RegionLaw
namespace Go.Proofs.YtodcgdiejmdaaaaDoor
open Go.RowKit

theorem step_appB {ops : Array Oper} {o : Oper} {a : Act} {w : World} {K : Act → World → Prop} {Q : Exit → Act → World → Prop} {E : Prop} (hgd : o.guard = none) (s x : Operand)
    (ho : o.op = .call { callee := .builtin .append, args := #[s, x], argTypes := #[48, 48] })
    (base : Nat) (v y : Value) (xs news : List UInt8) (hs : a.eval s = v) (hown : OwnB w base v xs) (hx : a.eval x = y) (hrd : Bs w y news)
    (hl : xs.length + news.length ≤ 140737488355328) (hbase : base ≤ w.heap.size)
    (h : ∀ v' w', OwnB w' base v' (xs ++ news) → Below base w w' → K (a.put o.dst v') w') :
    if Region.wanted o (yielded ops a.tmps) = true then Oper.wp Tryd.prog o a w K Q else E := by
  have hw : Region.wanted o (yielded ops a.tmps) = true := by simp [Region.wanted, hgd]
  rw [if_pos hw]
  obtain ⟨i0, hi, hz0, hz1, hz2⟩ := info_parts Tryd.info5
  refine wp_app w s x 48 ho base 5 i0 (.int .u8 0) 1 Tryd.underlying48 hi hz0 hz1 hz2 rfl v y (xs.map by8) (news.map by8) hs hown hx hrd (one8 news) (by simp; omega) (by simp; omega) hbase ?_
  intro v' w' h1 h2 _ _
  exact h v' w' (by unfold OwnB; rw [List.map_append]; exact h1) h2

theorem lit2 (w : World) (c d : UInt8) : Bs (w.alloc (.cells #[.int .u8 (c.toNat : Int), .int .u8 (d.toNat : Int)] 5)) (.slice (some ⟨w.heap.size, 0, none⟩) 2 2) [c, d] := by
  have := lit_rd w ([c, d].map by8) (by simp [maxLen])
  simpa [Bs, by8] using this
theorem lit4 (w : World) (a b c d : UInt8) : Bs (w.alloc (.cells #[.int .u8 (a.toNat : Int), .int .u8 (b.toNat : Int), .int .u8 (c.toNat : Int), .int .u8 (d.toNat : Int)] 5)) (.slice (some ⟨w.heap.size, 0, none⟩) 4 4) [a, b, c, d] := by
  have := lit_rd w ([a, b, c, d].map by8) (by simp [maxLen])
  simpa [Bs, by8] using this

theorem hexget : ∀ (i : Nat) (h : i < 16), (⟨#[48, 49, 50, 51, 52, 53, 54, 55, 56, 57, 97, 98, 99, 100, 101, 102]⟩ : ByteArray)[i]'h = Tk.hexd i := by
  decide
theorem Bs.drew {w : World} {v : Value} {l : List UInt8} (h : Bs w v l) : Bs w.drew v l := h

/-- What appendCharacter leaves. -/
def GrowB (w : World) (base : Nat) (l : List UInt8) (e : Ending) (w' : World) : Prop := ∃ v, e = .returned v ∧ OwnB w' base v l ∧ Below base w w'

set_option maxRecDepth 100000 in
set_option maxHeartbeats 2000000 in
theorem appChar_any (base : Nat) (v : Value) (pre : List UInt8) (c : UInt8) (w : World) (h : OwnB w base v pre) (hb : base ≤ w.heap.size) (hl : pre.length ≤ 1000000000) :
    Calls Tryd.prog 29 #[v, .int .u8 (c.toNat : Int)] w (GrowB w base (pre ++ Tk.qc c)) := by
  have HT : Hid (Tk.qc c = if c.toNat = 34 ∨ c.toNat = 92 then [92, c] else if c.toNat = 10 then [92, 110] else if c.toNat = 9 then [92, 116]
    else if c.toNat < 32 ∨ c.toNat > 126 then [92, 120, Tk.hexd (c.toNat / 16), Tk.hexd (c.toNat % 16)] else [c]) := rfl
  generalize Tk.qc c = qq at *
  have HO := hid h
  have hcn := c.toNat_lt
  clear h
  have HL2 := hid (lit2 w 92 c)
  by_cases h34 : c.toNat = 34
  · rw [if_pos (.inl h34)] at HT
    have i34 : (c.toNat : Int) = 34 := by omega
    rw [i34] at HL2
    go_enter Tryd.func29, Tryd.ntmps29
    go_wp2_with (at_builtin; refine wpList_appB rfl (.tmp 12) (.tmp 14) rfl base _ _ pre [92, c] rfl (Own.alloc HO.out _) rfl HL2.out (by simp; omega) (by simp; omega) ?_; intro v' w' hown' hb')
    go_ret
    rw [HT.out]
    exact ⟨v', rfl, hown', ((Below.refl _ _).alloc hb _).trans hb'⟩
  have i34 : ((c.toNat : Int) == 34) = false := by simp; omega
  by_cases h92 : c.toNat = 92
  · rw [if_pos (.inr h92)] at HT
    have i92 : (c.toNat : Int) = 92 := by omega
    rw [i92] at HL2
    rw [i92] at i34
    go_enter Tryd.func29, Tryd.ntmps29
    go_wp2_with (at_builtin; refine wpList_appB rfl (.tmp 12) (.tmp 14) rfl base _ _ pre [92, c] rfl (Own.alloc HO.out _) rfl HL2.out (by simp; omega) (by simp; omega) ?_; intro v' w' hown' hb')
    go_ret
    rw [HT.out]
    exact ⟨v', rfl, hown', ((Below.refl _ _).alloc hb _).trans hb'⟩
  have i92 : ((c.toNat : Int) == 92) = false := by simp; omega
  rw [if_neg (by omega)] at HT
  by_cases h10 : c.toNat = 10
  · rw [if_pos h10] at HT
    have i10 : (c.toNat : Int) = 10 := by omega
    rw [i10] at i34 i92
    go_enter Tryd.func29, Tryd.ntmps29
    go_wp2_with (at_builtin; refine wpList_appS rfl (.tmp 19) (.const (.string ⟨#[92, 110]⟩)) rfl base _ pre rfl HO.out ⟨#[92, 110]⟩ rfl (by simp [ByteArray.size]; omega) hb ?_; intro v' w' hown' hb')
    go_ret
    rw [HT.out]
    exact ⟨v', rfl, hown', hb'⟩
  have i10 : ¬ (c.toNat : Int) = 10 := by omega
  rw [if_neg h10] at HT
  by_cases h9 : c.toNat = 9
  · rw [if_pos h9] at HT
    have i9 : (c.toNat : Int) = 9 := by omega
    rw [i9] at i34 i92
    go_enter Tryd.func29, Tryd.ntmps29
    go_wp2_with (at_builtin; refine wpList_appS rfl (.tmp 24) (.const (.string ⟨#[92, 116]⟩)) rfl base _ pre rfl HO.out ⟨#[92, 116]⟩ rfl (by simp [ByteArray.size]; omega) hb ?_; intro v' w' hown' hb')
    go_ret
    rw [HT.out]
    exact ⟨v', rfl, hown', hb'⟩
  have i9 : ¬ (c.toNat : Int) = 9 := by omega
  rw [if_neg h9] at HT
  by_cases hr : c.toNat < 32 ∨ c.toNat > 126
  · rw [if_pos hr] at HT
    have hn1 : c.toNat / 16 < 16 := by omega
    have hn2 : c.toNat % 16 < 16 := by omega
    have HL4 := hid (lit4 w 92 120 ((⟨#[48, 49, 50, 51, 52, 53, 54, 55, 56, 57, 97, 98, 99, 100, 101, 102]⟩ : ByteArray)[c.toNat / 16]'hn1) ((⟨#[48, 49, 50, 51, 52, 53, 54, 55, 56, 57, 97, 98, 99, 100, 101, 102]⟩ : ByteArray)[c.toNat % 16]'hn2))
    have HX : Hid (Tk.hexd (c.toNat / 16) = (⟨#[48, 49, 50, 51, 52, 53, 54, 55, 56, 57, 97, 98, 99, 100, 101, 102]⟩ : ByteArray)[c.toNat / 16]'hn1 ∧ Tk.hexd (c.toNat % 16) = (⟨#[48, 49, 50, 51, 52, 53, 54, 55, 56, 57, 97, 98, 99, 100, 101, 102]⟩ : ByteArray)[c.toNat % 16]'hn2) := ⟨(hexget _ hn1).symm, (hexget _ hn2).symm⟩
    rw [HX.out.1, HX.out.2] at HT
    have hw1 : IntKind.u8.wrap ((c.toNat : Int) / 16) = (c.toNat : Int) / 16 := by unfold IntKind.wrap; simp [IntKind.bits, IntKind.signed]; omega
    have hw2 : IntKind.u8.wrap ((c.toNat : Int) % 16) = (c.toNat : Int) % 16 := by unfold IntKind.wrap; simp [IntKind.bits, IntKind.signed]; omega
    have htm : (c.toNat : Int).tmod 16 = (c.toNat : Int) % 16 := rfl
    have ht1 : ((c.toNat : Int) / 16).toNat = c.toNat / 16 := by omega
    have ht2 : ((c.toNat : Int) % 16).toNat = c.toNat % 16 := by omega
    have hq0 : 0 ≤ (c.toNat : Int) / 16 := by omega
    have hq1 : (c.toNat : Int) / 16 < 16 := by omega
    have hq2 : 0 ≤ (c.toNat : Int) % 16 := by omega
    have hq3 : (c.toNat : Int) % 16 < 16 := by omega
    rcases (by omega : (c.toNat : Int) < 32 ∨ (¬ (c.toNat : Int) < 32 ∧ (126 : Int) < (c.toNat : Int))) with j1 | ⟨j1, j2⟩
    · clear hr
      go_enter Tryd.func29, Tryd.ntmps29
      go_wp2_with fail
      go_region_law (refine step_appB (by rfl) _ _ (by rfl) base _ _ pre [92, 120, (⟨#[48, 49, 50, 51, 52, 53, 54, 55, 56, 57, 97, 98, 99, 100, 101, 102]⟩ : ByteArray)[c.toNat / 16]'hn1, (⟨#[48, 49, 50, 51, 52, 53, 54, 55, 56, 57, 97, 98, 99, 100, 101, 102]⟩ : ByteArray)[c.toNat % 16]'hn2] (by rfl) (Own.alloc HO.out _) (by rfl) HL4.out.drew (by simp; omega) (by simp; omega) ?_; intro v' w' hown' hb')
      all_goals go_wp2_with fail
      all_goals go_ret
      all_goals rw [HT.out]
      all_goals exact ⟨v', rfl, hown', (((Below.refl _ _).alloc hb _).drew).trans hb'⟩
    · have j3 : decide ((c.toNat : Int) < 32) = false := by simp; omega
      clear hr
      go_enter Tryd.func29, Tryd.ntmps29
      go_wp2_with fail
      go_region_law (refine step_appB (by rfl) _ _ (by rfl) base _ _ pre [92, 120, (⟨#[48, 49, 50, 51, 52, 53, 54, 55, 56, 57, 97, 98, 99, 100, 101, 102]⟩ : ByteArray)[c.toNat / 16]'hn1, (⟨#[48, 49, 50, 51, 52, 53, 54, 55, 56, 57, 97, 98, 99, 100, 101, 102]⟩ : ByteArray)[c.toNat % 16]'hn2] (by rfl) (Own.alloc HO.out _) (by rfl) HL4.out.drew (by simp; omega) (by simp; omega) ?_; intro v' w' hown' hb')
      all_goals go_wp2_with fail
      all_goals go_ret
      all_goals rw [HT.out]
      all_goals exact ⟨v', rfl, hown', (((Below.refl _ _).alloc hb _).drew).trans hb'⟩
  · rw [if_neg hr] at HT
    have j1 : ¬ (c.toNat : Int) < 32 := by omega
    have j2 : ¬ (126 : Int) < (c.toNat : Int) := by omega
    have j3 : decide ((c.toNat : Int) < 32) = false := by simp; omega
    clear hr
    go_enter Tryd.func29, Tryd.ntmps29
    go_wp2_with (at_builtin; refine wpList_app8 rfl (.tmp 42) (.tmp 44) rfl base _ pre _ c rfl rfl HO.out rfl (by omega) hb ?_; intro v' w' hown' hb')
    go_ret
    rw [HT.out]
    exact ⟨v', rfl, hown', hb'⟩
end Go.Proofs.YtodcgdiejmdaaaaDoor
