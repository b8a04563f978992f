/-
  Spell of the program, by its contract.
-/
import Derived.Test.YtodcgdiejmdaaaaDoorTSpl
namespace Go.Proofs.YtodcgdiejmdaaaaDoor
open Go.RowKit

/-- The loop of Spell. -/
def SpRel (w : World) (l : List Tk.T) (v vi : Value) (wr : World) : Prop :=
  ∃ i : Nat, i ≤ l.length ∧ vi = .int .i64 (i : Int) ∧ Hid (OwnS wr w.heap.size v (Tk.txts (l.take i))) ∧ Hid (Below w.heap.size w wr)

set_option maxRecDepth 100000 in
set_option maxHeartbeats 4000000 in
theorem spell_any (v : Value) (l : List Tk.T) (w : World) (hG : Good w) (h : RdT w v l) (hf : Tk.Fit l) :
    Calls Tryd.prog 16 #[v] w fun e w' => e = .returned (.string (byS (Tk.spell l))) ∧ Below w.heap.size w w' := by
  have HG := hid hG
  have H := hid h
  obtain ⟨A, c, rfl⟩ := h.form'
  have hl := hf.1
  have HF := hid hf.2
  have hsl := Tk.spell_len hf
  clear hG h hf
  go_enter Tryd.func16, Tryd.ntmps16
  go_wp2_with fail
  go_loopw [3, 8] (fun v3 v8 wr => SpRel w l v3 v8 wr) (fun _ v8 _ => l.length - (intOf v8).toNat)
  case atStart => exact ⟨0, Nat.zero_le _, rfl, Own.nil _ _ _, Below.refl _ _⟩
  case round =>
    obtain ⟨i, hi, rfl, HO, HB⟩ := hrel
    have hbs := HB.out.size
    by_cases hlt : i < l.length
    · obtain ⟨b, o, rfl, p0, p1, p2, p3⟩ := (H.out.keep HB.out).at_ i hlt
      have hfi := HF.out l[i] (List.getElem_mem hlt)
      have hti := Tk.txts_take hlt
      have htl : (Tk.txts (l.take i)).length ≤ 20000 := Nat.le_trans (Tk.txts_len _) (by rw [List.length_take]; omega)
      have HXX : Hid (Tk.txt l[i] = if l[i].k = 1 then some l[i].t else if l[i].k = 2 then some l[i].t else if l[i].k = 5 then some l[i].t else if l[i].k = 3 then some (Lib.itoa l[i].n) else if l[i].k = 4 then some (Tk.quote l[i].t) else none) := rfl
      have HTX := hid hti
      obtain ⟨hf1, hf2, hf3⟩ := hfi
      clear hti
      generalize Tk.txt l[i] = tx at *
      generalize l[i].k = k at *
      generalize l[i].at_ = at0 at *
      generalize l[i].t = tt at *
      generalize l[i].n = nn at *
      have HOA : Hid (∀ X : Obj, OwnS (wr.alloc X) w.heap.size u3 (Tk.txts (l.take i))) := fun X => Own.alloc HO.out X
      have HBA : Hid (∀ X : Obj, Below w.heap.size w (wr.alloc X)) := fun X => HB.out.alloc hbs X
      by_cases h1 : k = 1
      · subst h1
        rw [if_pos rfl] at HXX
        rw [HXX.out] at HTX
        go_wp2_with (at_builtin; refine wpList_appS1 rfl (.tmp 18) (.tmp 21) rfl w.heap.size _ (Tk.txts (l.take i)) (tt) rfl (HOA.out _) ((show _ = Value.slice (some ⟨wr.heap.size + 1, 0, none⟩) 1 1 from rfl).trans (by simp)) (by omega) (by simp; omega) ?_; intro v' w' hown' hb')
        refine ⟨⟨i + 1, by omega, by go_num, by rw [HTX.out]; exact hown', (HBA.out _).trans hb'⟩, ?_⟩
        simp [intOf]; omega
      rw [if_neg h1] at HXX
      by_cases h2 : k = 2
      · subst h2
        rw [if_pos rfl] at HXX
        rw [HXX.out] at HTX
        clear h1
        go_wp2_with (at_builtin; refine wpList_appS1 rfl (.tmp 18) (.tmp 21) rfl w.heap.size _ (Tk.txts (l.take i)) (tt) rfl (HOA.out _) ((show _ = Value.slice (some ⟨wr.heap.size + 1, 0, none⟩) 1 1 from rfl).trans (by simp)) (by omega) (by simp; omega) ?_; intro v' w' hown' hb')
        refine ⟨⟨i + 1, by omega, by go_num, by rw [HTX.out]; exact hown', (HBA.out _).trans hb'⟩, ?_⟩
        simp [intOf]; omega
      rw [if_neg h2] at HXX
      by_cases h5 : k = 5
      · subst h5
        rw [if_pos rfl] at HXX
        rw [HXX.out] at HTX
        clear h1 h2
        go_wp2_with (at_builtin; refine wpList_appS1 rfl (.tmp 18) (.tmp 21) rfl w.heap.size _ (Tk.txts (l.take i)) (tt) rfl (HOA.out _) ((show _ = Value.slice (some ⟨wr.heap.size + 1, 0, none⟩) 1 1 from rfl).trans (by simp)) (by omega) (by simp; omega) ?_; intro v' w' hown' hb')
        refine ⟨⟨i + 1, by omega, by go_num, by rw [HTX.out]; exact hown', (HBA.out _).trans hb'⟩, ?_⟩
        simp [intOf]; omega
      rw [if_neg h5] at HXX
      by_cases h3 : k = 3
      · subst h3
        rw [if_pos rfl] at HXX
        rw [HXX.out] at HTX
        clear h1 h2 h5
        have CI := hid (fun X => itoa_any nn (wr.alloc X) (HG.out.below (HBA.out X)) hf2 hf3)
        go_wp2_with fail
        refine (CI.out _).mono ?_
        rintro e w2 ⟨rfl, hb2⟩
        have HO2 : Hid (OwnS w2 w.heap.size u3 (Tk.txts (l.take i))) := (HOA.out _).below hb2
        have HB2 := hid ((HBA.out _).trans (hb2.mono (HBA.out _).size))
        have hbs2 := HB2.out.size
        clear hb2
        unfold strOf
        go_wp2_with (at_builtin; refine wpList_appS1 rfl (.tmp 25) (.tmp 29) rfl w.heap.size _ (Tk.txts (l.take i)) (Lib.itoa nn) rfl HO2.out rfl (by omega) hbs2 ?_; intro v' w' hown' hb')
        refine ⟨⟨i + 1, by omega, by go_num, by rw [HTX.out]; exact hown', HB2.out.trans hb'⟩, ?_⟩
        simp [intOf]; omega
      rw [if_neg h3] at HXX
      by_cases h4 : k = 4
      · subst h4
        rw [if_pos rfl] at HXX
        rw [HXX.out] at HTX
        clear h1 h2 h5 h3
        have CI := hid (fun X => quote_any (byS tt) (wr.alloc X) (by rw [byS_size]; omega))
        go_wp2_with fail
        refine (CI.out _).mono ?_
        rintro e w2 ⟨rfl, hb2⟩
        have HO2 : Hid (OwnS w2 w.heap.size u3 (Tk.txts (l.take i))) := (HOA.out _).below hb2
        have HB2 := hid ((HBA.out _).trans (hb2.mono (HBA.out _).size))
        have hbs2 := HB2.out.size
        clear hb2
        go_wp2_with (at_builtin; refine wpList_appS1 rfl (.tmp 33) (.tmp 37) rfl w.heap.size _ (Tk.txts (l.take i)) (Tk.quote tt) rfl HO2.out rfl (by omega) hbs2 ?_; intro v' w' hown' hb')
        refine ⟨⟨i + 1, by omega, by go_num, by rw [HTX.out]; exact hown', HB2.out.trans hb'⟩, ?_⟩
        simp [intOf]; omega
      rw [if_neg h4] at HXX
      rw [HXX.out] at HTX
      simp only [List.append_nil] at HTX
      go_wp2_with fail
      refine ⟨⟨i + 1, by omega, by go_num, by rw [HTX.out]; exact HOA.out _, HBA.out _⟩, ?_⟩
      simp [intOf]; omega
    · have hlt' : ¬ ((i : Int) < (l.length : Int)) := by omega
      have htk : Hid (l.take i = l) := List.take_of_length_le (by omega)
      rw [htk.out] at HO
      have CJ := hid (join_own wr w.heap.size u3 (Tk.txts l) HO.out (by have := Tk.txts_len l; omega) (by show (Tk.spell l).length ≤ _; omega))
      go_wp2_with fail
      refine CJ.out.mono ?_
      rintro e w2 ⟨rfl, hb2⟩
      go_wp2_with fail
      go_ret
      exact ⟨rfl, HB.out.trans (hb2.mono hbs)⟩
end Go.Proofs.YtodcgdiejmdaaaaDoor
