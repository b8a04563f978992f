/-
  Layer 7, plain: the offsets of tokens.
-/
import Derived.Test.YtodcgdiejmdaaaaDoorTLaw
namespace Go.Proofs.YtodcgdiejmdaaaaDoor
namespace Tk

/-- Offsets are increasing from last on, each at a byte of src that is no blank; the last one is the end. -/
def Offs (src : List UInt8) : Int → List T → Prop
  | _, [] => False
  | last, [t] => t.k = 0 ∧ t.at_ = (src.length : Int) ∧ last < t.at_
  | last, t :: u :: r => t.k ≠ 0 ∧ last < t.at_ ∧ (∃ (i : Nat) (h : i < src.length), t.at_ = (i : Int) ∧ blank src[i] = false) ∧ Offs src t.at_ (u :: r)

theorem dropWhile_suffix (p : UInt8 → Bool) (l : List UInt8) : l.dropWhile p = l.drop (l.length - (l.dropWhile p).length) := by
  induction l with
  | nil => rfl
  | cons c l ih =>
    have hl := dropWhile_len p l
    rw [List.dropWhile_cons]
    by_cases h : p c = true
    · rw [if_pos h, List.length_cons, show l.length + 1 - (l.dropWhile p).length = (l.length - (l.dropWhile p).length) + 1 by omega, List.drop_succ_cons]
      exact ih
    · rw [if_neg h]; simp
theorem dropWhile_head (p : UInt8 → Bool) : ∀ {l r : List UInt8} {c : UInt8}, l.dropWhile p = c :: r → p c = false
  | [], r, c, h => by cases h
  | d :: l, r, c, h => by
    rw [List.dropWhile_cons] at h
    split at h
    · exact dropWhile_head p h
    · rename_i hd
      injection h with h1 h2
      subst h1
      simpa using hd

theorem esc_suffix {l r : List UInt8} {c : UInt8} (h : esc l = .good c r) : r <:+ l := by
  unfold esc at h
  split at h
  · cases h
  · rename_i d s
    split at h
    · cases h; exact List.suffix_cons _ _
    · split at h
      · cases h; exact List.suffix_cons _ _
      · split at h
        · cases h; exact List.suffix_cons _ _
        · split at h
          · unfold code at h
            split at h
            · cases h
            · split at h
              · cases h
              · split at h
                · cases h
                · split at h
                  · cases h
                  · cases h
                    exact (List.suffix_cons _ _).trans ((List.suffix_cons _ _).trans (List.suffix_cons _ _))
          · cases h
theorem lit_suffix : ∀ (f : Nat) (l acc : List UInt8) {k : Int} {t : List UInt8} {n : Int} {r : List UInt8}, lit f l acc = .good k t n r → r <:+ l
  | 0, l, acc, k, t, n, r, h => by simp [lit] at h
  | f + 1, [], acc, k, t, n, r, h => by simp [lit] at h
  | f + 1, c :: l, acc, k, t, n, r, h => by
    unfold lit at h
    split at h
    · split at h
      · cases h
      · cases h; exact List.suffix_cons _ _
    · split at h
      · split at h
        · cases h
        · rename_i d r' he
          exact (lit_suffix f r' _ h).trans ((esc_suffix he).trans (List.suffix_cons _ _))
      · split at h
        · cases h
        · exact (lit_suffix f l _ h).trans (List.suffix_cons _ _)
theorem dropWhile_suf (p : UInt8 → Bool) (l : List UInt8) : l.dropWhile p <:+ l := List.dropWhile_suffix p
theorem tok_suffix {l r : List UInt8} {k n : Int} {t : List UInt8} (h : tok l = .good k t n r) : r <:+ l := by
  cases l with
  | nil => cases h; exact List.suffix_refl _
  | cons c s =>
    rw [tok_cons] at h
    split at h
    · unfold wordT at h
      simp only [] at h
      split at h
      · cases h
      · cases h; exact dropWhile_suf _ _
    · split at h
      · unfold num at h
        simp only [] at h
        split at h
        · cases h
        · split at h
          · cases h
          · cases h; exact dropWhile_suf _ _
      · split at h
        · exact (lit_suffix _ _ _ h).trans (List.suffix_cons _ _)
        · unfold sgn at h
          split at h
          · cases h
            exact (List.tail_suffix _).trans (List.suffix_cons _ _)
          · split at h
            · cases h; exact List.suffix_cons _ _
            · cases h

theorem offs_cons {src : List UInt8} {last : Int} {t : T} {l : List T} (h1 : t.k ≠ 0) (h2 : last < t.at_) (h3 : ∃ (i : Nat) (h : i < src.length), t.at_ = (i : Int) ∧ blank src[i] = false) (h4 : Offs src t.at_ l) : Offs src last (t :: l) := by
  cases l with
  | nil => exact absurd h4 (by simp [Offs])
  | cons u r => exact ⟨h1, h2, h3, h4⟩

theorem scan_offs (src : List UInt8) : ∀ (f : Nat) (l : List UInt8) (acc res : List T) (last : Int), l <:+ src → last < (src.length : Int) - l.length ∨ last = -1 → scan src.length f l acc = .good res → ∃ ts, res = acc ++ ts ∧ Offs src last ts
  | 0, _, _, _, _, _, _, h => by simp [scan] at h
  | f + 1, l, acc, res, last, hs, hlast, h => by
    have hd := dropWhile_len blank l
    have hs2 := (dropWhile_suf blank l).trans hs
    have hle := hs2.length_le
    cases hx : tok (l.dropWhile blank) with
    | bad e => rw [scan_bad hx] at h; cases h
    | good k t n r =>
      by_cases hk : k = 0
      · subst hk
        rcases tok_len hx with ⟨_, h0, _⟩ | h'
        · rw [scan_last h0] at h
          cases h
          refine ⟨_, rfl, rfl, rfl, ?_⟩
          rcases hlast with h | h
          · simp only []; omega
          · simp only []; omega
        · omega
      · rw [scan_step hx hk] at h
        have hl := tok_len hx
        have hlr : r.length + 1 ≤ (l.dropWhile blank).length := by
          rcases hl with h' | h'
          · exact absurd h'.1 hk
          · exact h'.2.2
        obtain ⟨ts, he, ho⟩ := scan_offs src f r _ res ((src.length : Int) - (l.dropWhile blank).length) ((tok_suffix hx).trans hs2) (.inl (by omega)) h
        refine ⟨⟨k, (src.length : Int) - (l.dropWhile blank).length, t, n⟩ :: ts, by rw [he]; simp, ?_⟩
        refine offs_cons hk ?_ ?_ ho
        · simp only []
          rcases hlast with h' | h' <;> omega
        · cases hc : l.dropWhile blank with
          | nil => rw [hc] at hlr; simp at hlr
          | cons c s =>
            have hb := dropWhile_head blank hc
            rw [hc] at hs2 hle
            obtain ⟨pre, hp⟩ := hs2
            have hlen : pre.length + (c :: s).length = src.length := by rw [← hp, List.length_append]
            refine ⟨pre.length, by simp only [List.length_cons] at hlen; omega, by simp only []; omega, ?_⟩
            have : src[pre.length]'(by simp only [List.length_cons] at hlen; omega) = c := by
              simp only [← hp]
              simp
            rw [this]; exact hb
theorem scanA_offs {src : List UInt8} {res : List T} (h : scanA src = .good res) : Offs src (-1) res := by
  unfold scanA at h
  split at h
  · cases h
  · obtain ⟨ts, he, ho⟩ := scan_offs src _ src [] res (-1) (List.suffix_refl _) (.inr rfl) h
    rw [List.nil_append] at he
    subst he; exact ho

theorem offs_range {src : List UInt8} : ∀ {l : List T} {last : Int}, Offs src last l → ∀ t ∈ l, 0 ≤ t.at_ ∧ t.at_ ≤ (src.length : Int)
  | [], last, h, t, ht => by cases ht
  | [u], last, h, t, ht => by
    obtain rfl := List.mem_singleton.1 ht
    have := h.2.1
    omega
  | u :: v :: r, last, h, t, ht => by
    rcases List.mem_cons.1 ht with rfl | ht
    · obtain ⟨i, hi, he, _⟩ := h.2.2.1
      omega
    · exact offs_range h.2.2.2 t ht
theorem offs_one {src : List UInt8} {last : Int} {t : T} {l : List T} (h : Offs src last (t :: l)) (hl : l = []) : t.k = 0 ∧ t.at_ = (src.length : Int) ∧ last < t.at_ := by subst hl; exact h
theorem offs_more {src : List UInt8} {last : Int} {t : T} {l : List T} (h : Offs src last (t :: l)) (hl : l ≠ []) : t.k ≠ 0 ∧ last < t.at_ ∧ (∃ (i : Nat) (h : i < src.length), t.at_ = (i : Int) ∧ blank src[i] = false) ∧ Offs src t.at_ l := by
  cases l with
  | nil => exact absurd rfl hl
  | cons u r => exact h
theorem offs_ne {src : List UInt8} {last : Int} {l : List T} (h : Offs src last l) : l ≠ [] := by
  intro e; subst e; exact h
theorem scan_low (N : Nat) : ∀ (f : Nat) (l : List UInt8) (acc : List T) {o e : Int}, l.length ≤ N → l.length < f → scan N f l acc = .bad o e → 0 ≤ o ∧ o ≤ (N : Int)
  | 0, _, _, _, _, _, h, _ => by omega
  | f + 1, l, acc, o, e, hl, hf, h => by
    have hd := dropWhile_len blank l
    cases hx : tok (l.dropWhile blank) with
    | bad k => rw [scan_bad hx] at h; cases h; omega
    | good k t n r =>
      have htl := tok_len hx
      by_cases hk : k = 0
      · subst hk
        rcases htl with ⟨_, h0, _⟩ | h'
        · rw [scan_last h0] at h; cases h
        · omega
      · rw [scan_step hx hk] at h
        exact scan_low N f r _ (by omega) (by omega) h
theorem scanA_low {l : List UInt8} {o e : Int} (h : scanA l = .bad o e) : 0 ≤ o ∧ o ≤ (l.length : Int) := by
  unfold scanA at h
  split at h
  · cases h; omega
  · exact scan_low _ _ _ _ (Nat.le_refl _) (by omega) h
theorem lit_bad : ∀ (f : Nat) (l acc : List UInt8) {k : Int}, lit f l acc = .bad k → k ≠ 0 := by
  intro f
  induction f with
  | zero => intro l acc k h; simp [lit] at h; omega
  | succ f ih =>
    intro l acc k h
    cases l with
    | nil => simp [lit] at h; omega
    | cons c r =>
      unfold lit at h
      split at h
      · split at h <;> cases h; omega
      · split at h
        · split at h
          · rename_i e he
            cases h
            unfold esc at he
            split at he
            · cases he; omega
            · split at he
              · cases he
              · split at he
                · cases he
                · split at he
                  · cases he
                  · split at he
                    · unfold code at he
                      split at he
                      · cases he; omega
                      · split at he
                        · cases he; omega
                        · split at he
                          · cases he; omega
                          · split at he
                            · cases he; omega
                            · cases he
                    · cases he; omega
          · exact ih _ _ h
        · split at h
          · cases h; omega
          · exact ih _ _ h
theorem tok_ne {l : List UInt8} {k : Int} (h : tok l = .bad k) : k ≠ 0 := by
  cases l with
  | nil => cases h
  | cons c r =>
    rw [tok_cons] at h
    split at h
    · unfold wordT at h
      simp only [] at h
      split at h <;> cases h; omega
    · split at h
      · unfold num at h
        simp only [] at h
        split at h
        · cases h; omega
        · split at h <;> cases h; omega
      · split at h
        · exact lit_bad _ _ _ h
        · unfold sgn at h
          split at h
          · cases h
          · split at h <;> cases h; omega
theorem scan_err (N : Nat) : ∀ (f : Nat) (l : List UInt8) (acc : List T) {o e : Int}, l.length < f → scan N f l acc = .bad o e → e ≠ 0
  | 0, _, _, _, _, h, _ => by omega
  | f + 1, l, acc, o, e, hf, h => by
    have hd := dropWhile_len blank l
    cases hx : tok (l.dropWhile blank) with
    | bad k => rw [scan_bad hx] at h; cases h; exact tok_ne hx
    | good k t n r =>
      have htl := tok_len hx
      by_cases hk : k = 0
      · subst hk
        rcases htl with ⟨_, h0, _⟩ | h'
        · rw [scan_last h0] at h; cases h
        · omega
      · rw [scan_step hx hk] at h
        exact scan_err N f r _ (by omega) h
theorem scanA_err {l : List UInt8} {o e : Int} (h : scanA l = .bad o e) : e ≠ 0 := by
  unfold scanA at h
  split at h
  · cases h; omega
  · exact scan_err _ _ _ _ (by omega) h

theorem scan_count (N : Nat) : ∀ (f : Nat) (l : List UInt8) (acc res : List T), scan N f l acc = .good res → res.length ≤ acc.length + l.length + 1
  | 0, _, _, _, h => by simp [scan] at h
  | f + 1, l, acc, res, h => by
    have hd := dropWhile_len blank l
    cases hx : tok (l.dropWhile blank) with
    | bad k => rw [scan_bad hx] at h; cases h
    | good k t n r =>
      have htl := tok_len hx
      by_cases hk : k = 0
      · subst hk
        rcases htl with ⟨_, h0, _⟩ | h'
        · rw [scan_last h0] at h; cases h; simp
        · omega
      · rw [scan_step hx hk] at h
        have := scan_count N f r _ res h
        simp only [List.length_append, List.length_singleton] at this
        omega
theorem scanA_count {l : List UInt8} {res : List T} (h : scanA l = .good res) : res.length ≤ 16385 := by
  unfold scanA at h
  split at h
  · cases h
  · have := scan_count _ _ _ _ _ h
    simp at this; omega
end Tk
end Go.Proofs.YtodcgdiejmdaaaaDoor
