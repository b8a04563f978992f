/-
  The order of well-formed values is total: plain mathematics.
-/
import Derived.Test.YtpoofeiajmkfdaaVOrd
namespace Go.Proofs.Ytpoofeiajmkfdaa
namespace V

theorem cmpL_anti {l : List V} (h : ∀ v ∈ l, ∀ u, cmp u v = - cmp v u) : ∀ l', cmpL l' l = - cmpL l l' := by
  induction l with
  | nil => intro l'; cases l' <;> simp [cmpL_nil, cmpL_nc, cmpL_cn]
  | cons v l ih =>
    intro l'
    cases l' with
    | nil => simp [cmpL_nc, cmpL_cn]
    | cons u l' =>
      rw [cmpL_cons, cmpL_cons, h v (by simp) u, ih (fun x hx => h x (by simp [hx])) l']
      split <;> split <;> omega
theorem cmpP_anti {l : List V} (h : ∀ v ∈ l, ∀ u, cmp u v = - cmp v u) : ∀ (ks : List ByteArray) (l' : List V) (ks' : List ByteArray), l.length = ks.length → l'.length = ks'.length → cmpP l' ks' l ks = - cmpP l ks l' ks' := by
  induction l with
  | nil => intro ks l' ks' _ _; cases l' <;> simp [cmpP_nil, cmpP_nc, cmpP_cn]
  | cons v l ih =>
    intro ks l' ks' e e'
    cases l' with
    | nil => simp [cmpP_nc, cmpP_cn]
    | cons u l' =>
      cases ks with
      | nil => simp at e
      | cons k ks =>
        cases ks' with
        | nil => simp at e'
        | cons k' ks' =>
          rw [cmpP_cons, cmpP_cons, h v (by simp) u, ih (fun x hx => h x (by simp [hx])) ks l' ks' (by simpa using e) (by simpa using e'), cS_anti k k']
          repeat' split
          all_goals omega

theorem len_of_wf {k n : Int} {s : ByteArray} {l : List V} {ks : List ByteArray} (h : wf (mk k n s l ks) = true) (hk : k = 5) : l.length = ks.length := by
  rcases fit_cases (wf_fit h) with h | h | h | h | h | h | h <;> first | omega | exact h.2.2.2.1

theorem cmp_anti (v : V) : ∀ u, wf v = true → wf u = true → cmp u v = - cmp v u := by
  -- items of well-formed values are well formed
  induction v using ind with
  | h k n s l ks ih =>
    intro u hv hu
    match u with
    | mk k' n' s' l' ks' =>
      rw [cmp_mk, cmp_mk]
      have hiv := wf_items hv
      have hiu := wf_items hu
      have kL : ∀ (x : List V) (y : List V), (∀ v ∈ x, v ∈ l) → (∀ u ∈ y, u ∈ l') → cmpL y x = - cmpL x y := by
        intro x
        induction x with
        | nil => intro y _ _; cases y <;> simp [cmpL_nil, cmpL_nc, cmpL_cn]
        | cons a x ihx =>
          intro y hx hy
          cases y with
          | nil => simp [cmpL_nc, cmpL_cn]
          | cons b y =>
            have ha := hx a (by simp)
            have hb := hy b (by simp)
            rw [cmpL_cons, cmpL_cons, ih a ha b (hiv a ha) (hiu b hb), ihx y (fun z hz => hx z (by simp [hz])) (fun z hz => hy z (by simp [hz]))]
            split <;> split <;> omega
      have kP : ∀ (x : List V) (ks : List ByteArray) (y : List V) (ks' : List ByteArray), (∀ v ∈ x, v ∈ l) → (∀ u ∈ y, u ∈ l') → x.length = ks.length → y.length = ks'.length → cmpP y ks' x ks = - cmpP x ks y ks' := by
        intro x
        induction x with
        | nil => intro ks y ks' _ _ _ _; cases y <;> simp [cmpP_nil, cmpP_nc, cmpP_cn]
        | cons a x ihx =>
          intro ks y ks' hx hy e e'
          cases y with
          | nil => simp [cmpP_nc, cmpP_cn]
          | cons b y =>
            cases ks with
            | nil => simp at e
            | cons k ks =>
              cases ks' with
              | nil => simp at e'
              | cons k' ks' =>
                have ha := hx a (by simp)
                have hb := hy b (by simp)
                rw [cmpP_cons, cmpP_cons, ih a ha b (hiv a ha) (hiu b hb), ihx ks y ks' (fun z hz => hx z (by simp [hz])) (fun z hz => hy z (by simp [hz])) (by simpa using e) (by simpa using e'), cS_anti k k']
                repeat' split
                all_goals omega
      by_cases hk : k = k'
      · subst hk
        simp only [ne_eq, not_true_eq_false, if_false]
        by_cases h1 : k = 1 ∨ k = 2 ∨ k = 6
        · rw [if_pos h1, if_pos h1, cI_anti]
        · rw [if_neg h1, if_neg h1]
          by_cases h3 : k = 3
          · rw [if_pos h3, if_pos h3, cS_anti]
          · rw [if_neg h3, if_neg h3]
            by_cases h4 : k = 4
            · rw [if_pos h4, if_pos h4, kL l l' (fun _ h => h) (fun _ h => h)]
            · rw [if_neg h4, if_neg h4]
              by_cases h5 : k = 5
              · rw [if_pos h5, if_pos h5, kP l ks l' ks' (fun _ h => h) (fun _ h => h) (len_of_wf hv h5) (len_of_wf hu h5)]
              · rw [if_neg h5, if_neg h5]; simp
      · rw [if_pos (fun e => hk e.symm), if_pos hk, cI_anti]

theorem cmp_zero (v : V) : ∀ u, wf v = true → wf u = true → (cmp v u = 0 ↔ v = u) := by
  induction v using ind with
  | h k n s l ks ih =>
    intro u hv hu
    match u with
    | mk k' n' s' l' ks' =>
      rw [cmp_alt hv hu, mk.injEq]
      have hiv := wf_items hv
      have hiu := wf_items hu
      have kL : ∀ (x : List V) (y : List V), (∀ v ∈ x, v ∈ l) → (∀ u ∈ y, u ∈ l') → (cmpL x y = 0 ↔ x = y) := by
        intro x
        induction x with
        | nil => intro y _ _; cases y <;> simp [cmpL_nil, cmpL_nc]
        | cons a x ihx =>
          intro y hx hy
          cases y with
          | nil => simp [cmpL_cn]
          | cons b y =>
            have ha := hx a (by simp)
            have hb := hy b (by simp)
            have h1 := ih a ha b (hiv a ha) (hiu b hb)
            have h2 := ihx y (fun z hz => hx z (by simp [hz])) (fun z hz => hy z (by simp [hz]))
            rw [cmpL_cons, List.cons.injEq, ← h1, ← h2]
            split
            · constructor
              · intro h; omega
              · intro h; omega
            · constructor
              · intro h; exact ⟨by omega, h⟩
              · intro h; exact h.2
      have kP : ∀ (x : List V) (ks : List ByteArray) (y : List V) (ks' : List ByteArray), (∀ v ∈ x, v ∈ l) → (∀ u ∈ y, u ∈ l') → x.length = ks.length → y.length = ks'.length → (cmpP x ks y ks' = 0 ↔ x = y ∧ ks = ks') := by
        intro x
        induction x with
        | nil =>
          intro ks y ks' _ _ e e'
          cases y with
          | nil =>
            have h1 : ks = [] := List.eq_nil_of_length_eq_zero e.symm
            have h2 : ks' = [] := List.eq_nil_of_length_eq_zero e'.symm
            simp [cmpP_nil, h1, h2]
          | cons b y => simp [cmpP_nc]
        | cons a x ihx =>
          intro ks y ks' hx hy e e'
          cases y with
          | nil => simp [cmpP_cn]
          | cons b y =>
            cases ks with
            | nil => simp at e
            | cons k ks =>
              cases ks' with
              | nil => simp at e'
              | cons k' ks' =>
                have ha := hx a (by simp)
                have hb := hy b (by simp)
                have h1 := ih a ha b (hiv a ha) (hiu b hb)
                have h2 := ihx ks y ks' (fun z hz => hx z (by simp [hz])) (fun z hz => hy z (by simp [hz])) (by simpa using e) (by simpa using e')
                have h3 := cS_zero k k'
                rw [cmpP_cons, List.cons.injEq, List.cons.injEq, ← h1, ← h3]
                split
                · constructor
                  · intro h; omega
                  · intro h; omega
                · split
                  · constructor
                    · intro h; omega
                    · intro h; omega
                  · rw [h2]
                    constructor
                    · rintro ⟨p, q⟩; exact ⟨⟨by omega, p⟩, ⟨by omega, q⟩⟩
                    · rintro ⟨⟨_, p⟩, ⟨_, q⟩⟩; exact ⟨p, q⟩
      by_cases hk : k = k'
      · subst hk
        simp only [ne_eq, not_true_eq_false, if_false]
        by_cases hn : n = n'
        · subst hn
          simp only [not_true_eq_false, if_false]
          by_cases hs : s = s'
          · subst hs
            simp only [not_true_eq_false, if_false, true_and]
            by_cases h5 : k = 5
            · rw [if_pos h5, kP l ks l' ks' (fun _ h => h) (fun _ h => h) (len_of_wf hv h5) (len_of_wf hu h5)]
            · rw [if_neg h5, kL l l' (fun _ h => h) (fun _ h => h)]
              have e1 : ks = [] := by
                rcases fit_cases (wf_fit hv) with h | h | h | h | h | h | h <;> simp_all
              have e2 : ks' = [] := by
                rcases fit_cases (wf_fit hu) with h | h | h | h | h | h | h <;> simp_all
              simp [e1, e2]
          · simp only [hs, not_false_eq_true, if_true, false_and, and_false, iff_false]
            split <;> omega
        · simp only [hn, not_false_eq_true, if_true, false_and, and_false, iff_false]
          split <;> omega
      · simp only [ne_eq, hk, not_false_eq_true, if_true, false_and, iff_false]
        split <;> omega

theorem cmp_self {v : V} (h : wf v = true) : cmp v v = 0 := (cmp_zero v v h h).2 rfl

/-- Strictness: from a below b and b not above c, a is below c, once 'not above' is transitive. -/
theorem strict {a b c : V} (ha : wf a = true) (hb : wf b = true) (hc : wf c = true) (tr : cmp a c ≤ 0) (h1 : cmp a b ≤ 0) (h2 : cmp b c ≤ 0) (h : cmp a b < 0 ∨ cmp b c < 0) : cmp a c < 0 := by
  rcases Int.lt_or_eq_of_le tr with h3 | h3
  · exact h3
  · have e := (cmp_zero a c ha hc).1 h3
    subst e
    have := cmp_anti a b ha hb
    omega

theorem cmp_trans (v : V) : ∀ u z, wf v = true → wf u = true → wf z = true → cmp v u ≤ 0 → cmp u z ≤ 0 → cmp v z ≤ 0 := by
  induction v using ind with
  | h k n s l ks ih =>
    intro u z hv hu hz h1 h2
    match u, z with
    | mk k' n' s' l' ks', mk k2 n2 s2 l2 ks2 =>
      have hiv := wf_items hv
      have hiu := wf_items hu
      have hiz := wf_items hz
      have kL : ∀ (x y w : List V), (∀ v ∈ x, v ∈ l) → (∀ u ∈ y, u ∈ l') → (∀ u ∈ w, u ∈ l2) → cmpL x y ≤ 0 → cmpL y w ≤ 0 → cmpL x w ≤ 0 := by
        intro x
        induction x with
        | nil => intro y w _ _ _ _ _; cases w <;> simp [cmpL_nil, cmpL_nc]
        | cons a x ihx =>
          intro y w hx hy hw e1 e2
          cases y with
          | nil => simp [cmpL_cn] at e1
          | cons b y =>
            cases w with
            | nil => simp [cmpL_cn] at e2
            | cons c w =>
              have ha := hx a (by simp)
              have hb := hy b (by simp)
              have hc := hw c (by simp)
              have tr := ih a ha b c (hiv a ha) (hiu b hb) (hiz c hc)
              have st := strict (hiv a ha) (hiu b hb) (hiz c hc)
              have rec_ := ihx y w (fun z hz => hx z (by simp [hz])) (fun z hz => hy z (by simp [hz])) (fun z hz => hw z (by simp [hz]))
              rw [cmpL_cons] at e1 e2 ⊢
              by_cases p : cmp a b = 0
              · have e := (cmp_zero a b (hiv a ha) (hiu b hb)).1 p
                subst e
                rw [if_neg (by omega)] at e1
                by_cases q : cmp a c = 0
                · rw [if_neg (by omega)] at e2 ⊢
                  exact rec_ e1 e2
                · rw [if_pos q] at e2 ⊢
                  exact e2
              · rw [if_pos p] at e1
                have e3 : cmp b c ≤ 0 := by
                  by_cases q : cmp b c = 0
                  · omega
                  · rw [if_pos q] at e2; exact e2
                have := st (tr e1 e3) e1 e3 (.inl (by omega))
                rw [if_pos (by omega)]; omega
      have kP : ∀ (x : List V) (ks : List ByteArray) (y : List V) (ks' : List ByteArray) (w : List V) (kw : List ByteArray), (∀ v ∈ x, v ∈ l) → (∀ u ∈ y, u ∈ l') → (∀ u ∈ w, u ∈ l2) → x.length = ks.length → y.length = ks'.length → w.length = kw.length → cmpP x ks y ks' ≤ 0 → cmpP y ks' w kw ≤ 0 → cmpP x ks w kw ≤ 0 := by
        intro x
        induction x with
        | nil => intro ks y ks' w kw _ _ _ _ _ _ _ _; cases w <;> simp [cmpP_nil, cmpP_nc]
        | cons a x ihx =>
          intro ks y ks' w kw hx hy hw f1 f2 f3 e1 e2
          cases y with
          | nil => simp [cmpP_cn] at e1
          | cons b y =>
            cases w with
            | nil => simp [cmpP_cn] at e2
            | cons c w =>
              cases ks with
              | nil => simp at f1
              | cons ka ks =>
                cases ks' with
                | nil => simp at f2
                | cons kb ks' =>
                  cases kw with
                  | nil => simp at f3
                  | cons kc kw =>
                    have ha := hx a (by simp)
                    have hb := hy b (by simp)
                    have hc := hw c (by simp)
                    have tr := ih a ha b c (hiv a ha) (hiu b hb) (hiz c hc)
                    have st := strict (hiv a ha) (hiu b hb) (hiz c hc)
                    have rec_ := ihx ks y ks' w kw (fun z hz => hx z (by simp [hz])) (fun z hz => hy z (by simp [hz])) (fun z hz => hw z (by simp [hz])) (by simpa using f1) (by simpa using f2) (by simpa using f3)
                    have z1 := cS_zero ka kb
                    have z2 := cS_zero kb kc
                    have z3 := cS_zero ka kc
                    have a1 := cS_anti ka kb
                    have t3 : cS ka kb ≤ 0 → cS kb kc ≤ 0 → cS ka kc ≤ 0 := cS_trans
                    rw [cmpP_cons] at e1 e2 ⊢
                    by_cases p1 : cS ka kb = 0
                    · have e := z1.1 p1
                      subst e
                      rw [if_neg (by omega)] at e1
                      by_cases p2 : cS ka kc = 0
                      · rw [if_neg (by omega)] at e2 ⊢
                        by_cases p : cmp a b = 0
                        · have e := (cmp_zero a b (hiv a ha) (hiu b hb)).1 p
                          subst e
                          rw [if_neg (by omega)] at e1
                          by_cases q : cmp a c = 0
                          · rw [if_neg (by omega)] at e2 ⊢
                            exact rec_ e1 e2
                          · rw [if_pos q] at e2 ⊢
                            exact e2
                        · rw [if_pos p] at e1
                          have e3 : cmp b c ≤ 0 := by
                            by_cases q : cmp b c = 0
                            · omega
                            · rw [if_pos q] at e2; exact e2
                          have := st (tr e1 e3) e1 e3 (.inl (by omega))
                          rw [if_pos (by omega)]; omega
                      · rw [if_pos p2] at e2 ⊢
                        exact e2
                    · rw [if_pos p1] at e1
                      have e3 : cS kb kc ≤ 0 := by
                        by_cases q : cS kb kc = 0
                        · omega
                        · rw [if_pos q] at e2; exact e2
                      have h4 := t3 e1 e3
                      have h5 : cS ka kc ≠ 0 := by
                        intro q
                        have e := z3.1 q
                        subst e
                        omega
                      rw [if_pos h5]; exact h4
      rw [cmp_mk] at h1 h2 ⊢
      by_cases p : k = k'
      · subst p
        simp only [ne_eq, not_true_eq_false, if_false] at h1
        by_cases q : k = k2
        · subst q
          simp only [ne_eq, not_true_eq_false, if_false] at h2 ⊢
          by_cases c1 : k = 1 ∨ k = 2 ∨ k = 6
          · rw [if_pos c1] at h1 h2 ⊢
            rw [cI_le] at *; omega
          · rw [if_neg c1] at h1 h2 ⊢
            by_cases c3 : k = 3
            · rw [if_pos c3] at h1 h2 ⊢
              exact cS_trans h1 h2
            · rw [if_neg c3] at h1 h2 ⊢
              by_cases c4 : k = 4
              · rw [if_pos c4] at h1 h2 ⊢
                exact kL l l' l2 (fun _ h => h) (fun _ h => h) (fun _ h => h) h1 h2
              · rw [if_neg c4] at h1 h2 ⊢
                by_cases c5 : k = 5
                · rw [if_pos c5] at h1 h2 ⊢
                  exact kP l ks l' ks' l2 ks2 (fun _ h => h) (fun _ h => h) (fun _ h => h) (len_of_wf hv c5) (len_of_wf hu c5) (len_of_wf hz c5) h1 h2
                · rw [if_neg c5]; omega
        · rw [if_pos q] at h2 ⊢
          exact h2
      · rw [if_pos p] at h1
        rw [cI_le] at h1
        by_cases q : k' = k2
        · subst q
          rw [if_pos p, cI_le]; exact h1
        · rw [if_pos q, cI_le] at h2
          rw [if_pos (by omega), cI_le]; omega

theorem cmpL_range {l : List V} (h : ∀ v ∈ l, ∀ u, cmp v u = -1 ∨ cmp v u = 0 ∨ cmp v u = 1) : ∀ l', cmpL l l' = -1 ∨ cmpL l l' = 0 ∨ cmpL l l' = 1 := by
  induction l with
  | nil => intro l'; cases l' <;> simp [cmpL_nil, cmpL_nc]
  | cons v l ih =>
    intro l'
    cases l' with
    | nil => simp [cmpL_cn]
    | cons u l' =>
      rw [cmpL_cons]
      split
      · exact h v (by simp) u
      · exact ih (fun x hx => h x (by simp [hx])) l'
theorem cmpP_range {l : List V} (h : ∀ v ∈ l, ∀ u, cmp v u = -1 ∨ cmp v u = 0 ∨ cmp v u = 1) : ∀ ks l' ks', cmpP l ks l' ks' = -1 ∨ cmpP l ks l' ks' = 0 ∨ cmpP l ks l' ks' = 1 := by
  induction l with
  | nil => intro ks l' ks'; cases l' <;> simp [cmpP_nil, cmpP_nc]
  | cons v l ih =>
    intro ks l' ks'
    cases l' with
    | nil => simp [cmpP_cn]
    | cons u l' =>
      cases ks with
      | nil => simp [cmpP]
      | cons k ks =>
        cases ks' with
        | nil => simp [cmpP]
        | cons k' ks' =>
          rw [cmpP_cons]
          split
          · exact cS_range k k'
          · split
            · exact h v (by simp) u
            · exact ih (fun x hx => h x (by simp [hx])) ks l' ks'
theorem cmp_range (v : V) : ∀ u, cmp v u = -1 ∨ cmp v u = 0 ∨ cmp v u = 1 := by
  induction v using ind with
  | h k n s l ks ih =>
    intro u
    match u with
    | mk k' n' s' l' ks' =>
      rw [cmp_mk]
      repeat' split
      · exact cI_range _ _
      · exact cI_range _ _
      · exact cS_range _ _
      · exact cmpL_range ih _
      · exact cmpP_range ih _ _ _
      · simp
end V
end Go.Proofs.Ytpoofeiajmkfdaa
