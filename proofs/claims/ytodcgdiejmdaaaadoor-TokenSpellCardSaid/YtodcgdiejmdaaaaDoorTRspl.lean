/-
  Spell of the reference, by its contract.
-/
import Derived.Test.YtodcgdiejmdaaaaDoorTSpl
import Derived.Test.YtodcgdiejmdaaaaDoorTRquo
namespace Go.Proofs.YtodcgdiejmdaaaaDoor
open Go.RowKit

theorem join_snoc {xs : List (List UInt8)} {x : List UInt8} (h : xs ≠ []) : Lib.join (xs ++ [x]) [32] = Lib.join xs [32] ++ [32] ++ x := by
  obtain ⟨y, r, rfl⟩ := List.exists_cons_of_ne_nil h
  rw [List.cons_append, Lib.join_cons, Lib.join_cons]
  simp [Lib.joinTail]

/-- The loop of the reference's Spell. -/
def RspRel (w : World) (l : List Tk.T) (v3 v4 vi : Value) (wr : World) : Prop :=
  ∃ (i : Nat) (out : List UInt8) (first : Bool), i ≤ l.length ∧ vi = .int .i64 (i : Int) ∧ v3 = .string (byS out) ∧ v4 = .bool first ∧ Hid (out = Lib.join (Tk.txts (l.take i)) [32]) ∧
    ((first = true ∧ Tk.txts (l.take i) = [] ∧ out = []) ∨ (first = false ∧ Tk.txts (l.take i) ≠ [])) ∧ Hid (Below w.heap.size w wr) ∧ out.length ≤ 200000 * i

set_option maxRecDepth 100000 in
set_option maxHeartbeats 8000000 in
theorem rspell_any (v : Value) (l : List Tk.T) (w : World) (h : RdT w v l) (hf : Tk.Fit l) :
    Calls Tryd.prog 17 #[v] w fun e w' => e = .returned (.string (byS (Tk.spell l))) ∧ Below w.heap.size w w' := by
  have H := hid h
  obtain ⟨A, c, rfl⟩ := h.form'
  have hl := hf.1
  have HF := hid hf.2
  have H0 : Hid (Value.string ⟨#[]⟩ = .string (byS [])) := rfl
  clear h hf
  go_enter Tryd.func17, Tryd.ntmps17
  go_wp2_with fail
  go_loopw [3, 4, 10] (fun v3 v4 v10 wr => RspRel w l v3 v4 v10 wr) (fun _ _ v10 _ => l.length - (intOf v10).toNat)
  case atStart => exact ⟨0, [], true, Nat.zero_le _, rfl, rfl, rfl, rfl, .inl ⟨rfl, rfl, rfl⟩, Below.refl _ _, by simp⟩
  case round =>
    obtain ⟨i, out, first, hi, rfl, rfl, rfl, hout, hfirst, HB, hol⟩ := hrel
    have hbs := HB.out.size
    by_cases hlt : i < l.length
    · obtain ⟨b, o, rfl, p0, p1, p2, p3⟩ := (H.out.keep HB.out).at_ i hlt
      have hfi := HF.out l[i] (List.getElem_mem hlt)
      have hti := Tk.txts_take hlt
      have HXX : Hid (Tk.txt l[i] = if l[i].k = 1 then some l[i].t else if l[i].k = 2 then some l[i].t else if l[i].k = 5 then some l[i].t else if l[i].k = 3 then some (Lib.itoa l[i].n) else if l[i].k = 4 then some (Tk.quote l[i].t) else none) := rfl
      have HTX := hid hti
      obtain ⟨hf1, hf2, hf3⟩ := hfi
      clear hti
      generalize Tk.txt l[i] = tx at *
      generalize l[i].k = k at *
      generalize l[i].at_ = at0 at *
      generalize l[i].t = tt at *
      generalize l[i].n = nn at *
      have HBA : Hid (∀ X : Obj, Below w.heap.size w (wr.alloc X)) := fun X => HB.out.alloc hbs X
      have hso : (byS out).size = out.length := byS_size _
      have hst : (byS tt).size = tt.length := byS_size _
      have hol2 : out.length ≤ 4000000000 := by omega
      have s32 : (⟨#[32]⟩ : ByteArray).size = 1 := rfl
      have s0 : (⟨#[]⟩ : ByteArray).size = 0 := rfl
      by_cases h1 : k = 1
      · subst h1
        rw [if_pos rfl] at HXX
        rw [HXX.out] at HTX
        rcases hfirst with ⟨hf1, hf2, hf3⟩ | ⟨hf1, hf2⟩
        · subst hf1
          subst hf3
          have hj : Hid (Lib.join (Tk.txts (l.take (i + 1))) [32] = tt) := by
            show _ = _
            rw [HTX.out, hf2]; exact Lib.join_one _ _
          have hne : Hid (Tk.txts (l.take (i + 1)) ≠ []) := by show _ ≠ _; rw [HTX.out]; simp
          have c1 := cat_by [] (tt)
          rw [List.nil_append] at c1
          have c1 : (⟨#[]⟩ : ByteArray) ++ byS (tt) = byS (tt) := c1
          go_wp2_with fail
          refine ⟨⟨i + 1, tt, false, by omega, by go_num, rfl, rfl, hj.out.symm, .inr ⟨rfl, hne.out⟩, HBA.out _, by omega⟩, ?_⟩
          simp [intOf]; omega
        · subst hf1
          have hj : Hid (Lib.join (Tk.txts (l.take (i + 1))) [32] = out ++ [32] ++ (tt)) := by
            show _ = _
            rw [HTX.out, join_snoc hf2, ← hout.out]
          have hne : Hid (Tk.txts (l.take (i + 1)) ≠ []) := by show _ ≠ _; rw [HTX.out]; simp
          have c1 := cat_c out [32] ⟨#[32]⟩ rfl
          have c2 := cat_by (out ++ [32]) (tt)
          have s1 : (byS (out ++ [32])).size = out.length + 1 := by rw [byS_size]; simp
          go_wp2_with fail
          refine ⟨⟨i + 1, out ++ [32] ++ (tt), false, by omega, by go_num, by simp, rfl, hj.out.symm, .inr ⟨rfl, hne.out⟩, HBA.out _, by simp only [List.length_append, List.length_singleton]; omega⟩, ?_⟩
          simp [intOf]; omega
      rw [if_neg h1] at HXX
      by_cases h2 : k = 2
      · subst h2
        rw [if_pos rfl] at HXX
        rw [HXX.out] at HTX
        clear h1
        rcases hfirst with ⟨hf1, hf2, hf3⟩ | ⟨hf1, hf2⟩
        · subst hf1
          subst hf3
          have hj : Hid (Lib.join (Tk.txts (l.take (i + 1))) [32] = tt) := by
            show _ = _
            rw [HTX.out, hf2]; exact Lib.join_one _ _
          have hne : Hid (Tk.txts (l.take (i + 1)) ≠ []) := by show _ ≠ _; rw [HTX.out]; simp
          have c1 := cat_by [] (tt)
          rw [List.nil_append] at c1
          have c1 : (⟨#[]⟩ : ByteArray) ++ byS (tt) = byS (tt) := c1
          go_wp2_with fail
          refine ⟨⟨i + 1, tt, false, by omega, by go_num, rfl, rfl, hj.out.symm, .inr ⟨rfl, hne.out⟩, HBA.out _, by omega⟩, ?_⟩
          simp [intOf]; omega
        · subst hf1
          have hj : Hid (Lib.join (Tk.txts (l.take (i + 1))) [32] = out ++ [32] ++ (tt)) := by
            show _ = _
            rw [HTX.out, join_snoc hf2, ← hout.out]
          have hne : Hid (Tk.txts (l.take (i + 1)) ≠ []) := by show _ ≠ _; rw [HTX.out]; simp
          have c1 := cat_c out [32] ⟨#[32]⟩ rfl
          have c2 := cat_by (out ++ [32]) (tt)
          have s1 : (byS (out ++ [32])).size = out.length + 1 := by rw [byS_size]; simp
          go_wp2_with fail
          refine ⟨⟨i + 1, out ++ [32] ++ (tt), false, by omega, by go_num, by simp, rfl, hj.out.symm, .inr ⟨rfl, hne.out⟩, HBA.out _, by simp only [List.length_append, List.length_singleton]; omega⟩, ?_⟩
          simp [intOf]; omega
      rw [if_neg h2] at HXX
      by_cases h5 : k = 5
      · subst h5
        rw [if_pos rfl] at HXX
        rw [HXX.out] at HTX
        clear h1 h2
        rcases hfirst with ⟨hf1, hf2, hf3⟩ | ⟨hf1, hf2⟩
        · subst hf1
          subst hf3
          have hj : Hid (Lib.join (Tk.txts (l.take (i + 1))) [32] = tt) := by
            show _ = _
            rw [HTX.out, hf2]; exact Lib.join_one _ _
          have hne : Hid (Tk.txts (l.take (i + 1)) ≠ []) := by show _ ≠ _; rw [HTX.out]; simp
          have c1 := cat_by [] (tt)
          rw [List.nil_append] at c1
          have c1 : (⟨#[]⟩ : ByteArray) ++ byS (tt) = byS (tt) := c1
          go_wp2_with fail
          refine ⟨⟨i + 1, tt, false, by omega, by go_num, rfl, rfl, hj.out.symm, .inr ⟨rfl, hne.out⟩, HBA.out _, by omega⟩, ?_⟩
          simp [intOf]; omega
        · subst hf1
          have hj : Hid (Lib.join (Tk.txts (l.take (i + 1))) [32] = out ++ [32] ++ (tt)) := by
            show _ = _
            rw [HTX.out, join_snoc hf2, ← hout.out]
          have hne : Hid (Tk.txts (l.take (i + 1)) ≠ []) := by show _ ≠ _; rw [HTX.out]; simp
          have c1 := cat_c out [32] ⟨#[32]⟩ rfl
          have c2 := cat_by (out ++ [32]) (tt)
          have s1 : (byS (out ++ [32])).size = out.length + 1 := by rw [byS_size]; simp
          go_wp2_with fail
          refine ⟨⟨i + 1, out ++ [32] ++ (tt), false, by omega, by go_num, by simp, rfl, hj.out.symm, .inr ⟨rfl, hne.out⟩, HBA.out _, by simp only [List.length_append, List.length_singleton]; omega⟩, ?_⟩
          simp [intOf]; omega
      rw [if_neg h5] at HXX
      by_cases h3 : k = 3
      · subst h3
        rw [if_pos rfl] at HXX
        rw [HXX.out] at HTX
        clear h1 h2 h5
        have CI := hid (fun W => rdec07_any nn W hf2 hf3)
        have hil := Lib.itoa_length_le nn hf2 hf3
        generalize Lib.itoa nn = dx at *
        have hsd : (byS dx).size = dx.length := byS_size _
        rcases hfirst with ⟨hf1, hf2, hf3⟩ | ⟨hf1, hf2⟩
        · subst hf1
          subst hf3
          have hj : Hid (Lib.join (Tk.txts (l.take (i + 1))) [32] = dx) := by
            show _ = _
            rw [HTX.out, hf2]; exact Lib.join_one _ _
          have hne : Hid (Tk.txts (l.take (i + 1)) ≠ []) := by show _ ≠ _; rw [HTX.out]; simp
          have c1 := cat_by [] (dx)
          rw [List.nil_append] at c1
          have c1 : (⟨#[]⟩ : ByteArray) ++ byS (dx) = byS (dx) := c1
          go_wp2_with fail
          refine (CI.out _).mono ?_
          rintro e w2 ⟨rfl, rfl⟩
          go_wp2_with fail
          refine ⟨⟨i + 1, dx, false, by omega, by go_num, rfl, rfl, hj.out.symm, .inr ⟨rfl, hne.out⟩, HBA.out _, by omega⟩, ?_⟩
          simp [intOf]; omega
        · subst hf1
          have hj : Hid (Lib.join (Tk.txts (l.take (i + 1))) [32] = out ++ [32] ++ (dx)) := by
            show _ = _
            rw [HTX.out, join_snoc hf2, ← hout.out]
          have hne : Hid (Tk.txts (l.take (i + 1)) ≠ []) := by show _ ≠ _; rw [HTX.out]; simp
          have c1 := cat_c out [32] ⟨#[32]⟩ rfl
          have c2 := cat_by (out ++ [32]) (dx)
          have s1 : (byS (out ++ [32])).size = out.length + 1 := by rw [byS_size]; simp
          go_wp2_with fail
          refine (CI.out _).mono ?_
          rintro e w2 ⟨rfl, rfl⟩
          go_wp2_with fail
          refine ⟨⟨i + 1, out ++ [32] ++ (dx), false, by omega, by go_num, by simp, rfl, hj.out.symm, .inr ⟨rfl, hne.out⟩, HBA.out _, by simp only [List.length_append, List.length_singleton]; omega⟩, ?_⟩
          simp [intOf]; omega
      rw [if_neg h3] at HXX
      by_cases h4 : k = 4
      · subst h4
        rw [if_pos rfl] at HXX
        rw [HXX.out] at HTX
        clear h1 h2 h5 h3
        have CI := hid (fun W => rquote_any (byS tt) W (by rw [byS_size]; omega))
        have hql : (Tk.quote tt).length ≤ 100002 := by have := Tk.qcs_len tt; simp only [Tk.quote, List.length_cons, List.length_append, List.length_nil]; omega
        rw [show (byS tt).data.toList = tt from rfl] at CI
        generalize Tk.quote tt = dx at *
        have hsd : (byS dx).size = dx.length := byS_size _
        rcases hfirst with ⟨hf1, hf2, hf3⟩ | ⟨hf1, hf2⟩
        · subst hf1
          subst hf3
          have hj : Hid (Lib.join (Tk.txts (l.take (i + 1))) [32] = dx) := by
            show _ = _
            rw [HTX.out, hf2]; exact Lib.join_one _ _
          have hne : Hid (Tk.txts (l.take (i + 1)) ≠ []) := by show _ ≠ _; rw [HTX.out]; simp
          have c1 := cat_by [] (dx)
          rw [List.nil_append] at c1
          have c1 : (⟨#[]⟩ : ByteArray) ++ byS (dx) = byS (dx) := c1
          go_wp2_with fail
          refine (CI.out _).mono ?_
          rintro e w2 ⟨rfl, qq, rfl⟩
          go_wp2_with fail
          refine ⟨⟨i + 1, dx, false, by omega, by go_num, rfl, rfl, hj.out.symm, .inr ⟨rfl, hne.out⟩, (HBA.out _).trans (below_draws _), by omega⟩, ?_⟩
          simp [intOf]; omega
        · subst hf1
          have hj : Hid (Lib.join (Tk.txts (l.take (i + 1))) [32] = out ++ [32] ++ (dx)) := by
            show _ = _
            rw [HTX.out, join_snoc hf2, ← hout.out]
          have hne : Hid (Tk.txts (l.take (i + 1)) ≠ []) := by show _ ≠ _; rw [HTX.out]; simp
          have c1 := cat_c out [32] ⟨#[32]⟩ rfl
          have c2 := cat_by (out ++ [32]) (dx)
          have s1 : (byS (out ++ [32])).size = out.length + 1 := by rw [byS_size]; simp
          go_wp2_with fail
          refine (CI.out _).mono ?_
          rintro e w2 ⟨rfl, qq, rfl⟩
          go_wp2_with fail
          refine ⟨⟨i + 1, out ++ [32] ++ (dx), false, by omega, by go_num, by simp, rfl, hj.out.symm, .inr ⟨rfl, hne.out⟩, (HBA.out _).trans (below_draws _), by simp only [List.length_append, List.length_singleton]; omega⟩, ?_⟩
          simp [intOf]; omega
      rw [if_neg h4] at HXX
      rw [HXX.out] at HTX
      simp only [List.append_nil] at HTX
      go_wp2_with fail
      refine ⟨⟨i + 1, out, first, by omega, by go_num, rfl, rfl, by rw [HTX.out]; exact hout.out, by rw [HTX.out]; exact hfirst, HBA.out _, by omega⟩, ?_⟩
      simp [intOf]; omega
    · have hlt' : ¬ ((i : Int) < (l.length : Int)) := by omega
      have htk : Hid (l.take i = l) := List.take_of_length_le (by omega)
      rw [htk.out] at hout
      have HO : Hid (Tk.spell l = out) := hout.out.symm
      clear hfirst
      go_wp2_with fail
      go_ret
      rw [HO.out]
      exact ⟨rfl, HB.out⟩
end Go.Proofs.YtodcgdiejmdaaaaDoor
