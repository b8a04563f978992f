/-
  WHAT IS PROVED: the statement HashByte of layer 4 (Rows.HashByteSaid): for every input, of any size, the Go function workflowlaw04.HashByte returns true, and each argument reads afterwards as it read before. CONDITIONS: none beyond the row's own.
-/
import Derived.Test.YthljchcpnbjokaaRows
import Derived.Test.YthljchcpnbjokaaHWks
import Derived.Deep.RegionHeld3
import Derived.ProofKit
import Derived.OpenShut
import Derived.ShutString
import Derived.ChangeOld
namespace Go.Proofs.Ythljchcpnbjokaa.hashByte
open Go.ChangeShapes Go.WideShapes Go.ChangeAt Go.RowKit
open Go.ChangeMaps (open_string shut_string)
set_option linter.unusedVariables false

theorem own_open {w : World} {base : Nat} {v : Value} {l : List UInt8} (h : OwnB w base v l) (hl : 0 < l.length) : ∃ g c, v = .slice (some ⟨g, 0, none⟩) l.length c := by
  rcases h.2 with ⟨rfl, h0⟩ | ⟨g, cap, cur, rfl, _⟩
  · simp at h0
    subst h0
    simp at hl
  · exact ⟨g, cap, by simp⟩

theorem byte_of {x : Int} (h : (Lit.int .u8 x).wf = true) : ∃ c : UInt8, x = (c.toNat : Int) := by
  have := bounds_u8 h
  exact ⟨UInt8.ofNat x.toNat, by rw [Wi.ofNat_toNat (by omega)]; omega⟩

set_option maxRecDepth 100000 in
set_option maxHeartbeats 1000000 in
theorem walk (w : World) (v0 : Value) (l : List UInt8) (h0 : Bs w v0 l) (at_ : Int) (ha : (Lit.int .i64 at_).wf = true) (x : Int) (hx : (Lit.int .u8 x).wf = true) :
    Calls Try.prog 7 #[v0, .int .i64 at_, .int .u8 x] w fun e w' => e = .returned (.bool true) ∧ Below w.heap.size w w' := by
  obtain ⟨A, c, rfl⟩ := h0.form
  have ha1 := int_lo ha
  have ha2 := int_hi ha
  have h63 := h0.len63
  clear ha
  by_cases hl : 500 < l.length
  · go_enter Try.func7, Try.ntmps7
    go_wp2_with (go_at_call 9; refine (works_any _).mono ?_; rintro en w1 ⟨rfl, hb1⟩)
    go_ret
    exact ⟨rfl, hb1⟩
  by_cases hn : at_ < 0
  · go_enter Try.func7, Try.ntmps7
    go_wp2_with (go_at_call 9; refine (works_any _).mono ?_; rintro en w1 ⟨rfl, hb1⟩)
    go_ret
    exact ⟨rfl, hb1⟩
  by_cases hm : (l.length : Int) ≤ at_
  · go_enter Try.func7, Try.ntmps7
    go_wp2_with (go_at_call 9; refine (works_any _).mono ?_; rintro en w1 ⟨rfl, hb1⟩)
    go_ret
    exact ⟨rfl, hb1⟩
  obtain ⟨k, rfl⟩ := Int.eq_ofNat_of_zero_le (show 0 ≤ at_ by omega)
  obtain ⟨y, rfl⟩ := byte_of hx
  have hk : k < l.length := by omega
  obtain ⟨ad, rfl, _⟩ := h0.at k hk
  have hk' : (k : Int) < (l.length : Int) := by omega
  have hl' : l.length ≤ 500 := by omega
  clear ha1 ha2 hx hn hm hl h63
  go_enter Try.func7, Try.ntmps7
  go_wp2_with (at_builtin; refine wpList_app0 rfl (.tmp 22) (.tmp 23) rfl _ l rfl rfl h0 (by omega) ?_; intro v1 w1 hown1 hb1; obtain ⟨g, c1, rfl⟩ := own_open hown1 (by omega); obtain ⟨hbg, ⟨u, hcell⟩, hfro, hset⟩ := own_put hown1 (by simp) k hk; have HS := hid (hset (by8 y)))
  have hbW : Below w.heap.size w (w1.setCell ⟨g, k, none⟩ (by8 y)) := hb1.setCell hbg _
  have hz : (w1.setCell ⟨g, k, none⟩ (by8 y)).heap.size = w1.heap.size := by simp
  have hrd : Bs (w1.setCell ⟨g, k, none⟩ (by8 y)) (.slice (some ⟨g, 0, none⟩) l.length c1) (l.set k y) := by
    have := HS.out.1.rd
    rw [← List.map_set] at this
    exact this
  generalize hW : w1.setCell ⟨g, k, none⟩ (by8 y) = W at hbW hz hrd
  have hW' : w1.setCell ⟨g, k, none⟩ (.int .u8 (y.toNat : Int)) = W := hW
  rw [hW']
  have h0W := h0.below hbW
  obtain ⟨ad', e, hcl⟩ := h0W.at k hk
  injection e with e
  subst e
  have HW := hid hbW
  have HA := hid h0W
  have HC := hid hrd
  clear hbW hrd h0W hW hW' hz hown1 hcell hfro hset HS hb1
  have hcr := Hs.crc_set l k y hk
  have hgd : l.getD k 0 = l[k] := by simp [hk]
  rw [hgd] at hcl
  clear hgd
  have C1 := hid (crc_any _ l W.drew (HA.out.below (Below.refl _ _).drew))
  have C2 := hid (crc_any _ (l.set k y) W.drew (HC.out.below (Below.refl _ _).drew))
  generalize Hs.crc l = f1 at *
  generalize Hs.crc (l.set k y) = f2 at *
  generalize l[k] = z at *
  clear hk HA HC h0
  by_cases hzy : z = y
  · obtain rfl := hcr.2 hzy
    subst hzy
    clear hcr
    have hcl' : W.drew.cell? (ad.add k) = some (.int .u8 (z.toNat : Int)) := hcl
    have HS := hid hcl'
    clear hcl hcl'
    go_region_held3 (fun W' => W'.cell? (ad.add k) = some (.int .u8 (z.toNat : Int)))
      (first | exact HS.out | exact HS2.out)
      (first
        | (go_at_call 12; (with_reducible refine C1.out.mono ?_); rintro e w' ⟨rfl, rfl⟩)
        | (go_at_call 12; (with_reducible refine C2.out.mono ?_); rintro e w' ⟨rfl, rfl⟩)
        | (go_at_call 9; refine (works_any _).mono ?_; rintro en w2 ⟨rfl, hb2⟩; have HS2 := hid ((hb2.cell (World.block_lt_of_cell? _ _ HS.out)).trans HS.out); have HB2 := hid hb2; clear hb2))
    go_wp2_with fail
    go_ret
    exact ⟨rfl, (HW.out.trans (Below.refl _ _).drew).trans (HB2.out.mono (by have := HW.out.size; simpa using this))⟩
  · have hne : ((z.toNat : Int) == (y.toNat : Int)) = false := by
      rw [beq_eq_false_iff_ne]
      intro e
      exact hzy (UInt8.toNat_inj.1 (by omega))
    have hnf : ((f1 : Int) == (f2 : Int)) = false := by
      rw [beq_eq_false_iff_ne]
      intro e
      exact hzy (hcr.1 (by omega))
    clear hcr hzy
    have hcl' : W.drew.cell? (ad.add k) = some (.int .u8 (z.toNat : Int)) := hcl
    have HS := hid hcl'
    clear hcl hcl'
    go_region_held3 (fun W' => W'.cell? (ad.add k) = some (.int .u8 (z.toNat : Int)))
      (first | exact HS.out | exact HS2.out)
      (first
        | (go_at_call 12; (with_reducible refine C1.out.mono ?_); rintro e w' ⟨rfl, rfl⟩)
        | (go_at_call 12; (with_reducible refine C2.out.mono ?_); rintro e w' ⟨rfl, rfl⟩)
        | (go_at_call 9; refine (works_any _).mono ?_; rintro en w2 ⟨rfl, hb2⟩; have HS2 := hid ((hb2.cell (World.block_lt_of_cell? _ _ HS.out)).trans HS.out); have HB2 := hid hb2; clear hb2))
    go_wp2_with fail
    go_ret
    exact ⟨rfl, (HW.out.trans (Below.refl _ _).drew).trans (HB2.out.mono (by have := HW.out.size; simpa using this))⟩


theorem own : ownKnob Try.prog.godebug = none := by kernel_rfl
theorem laidOut : laidOutB Try.prog = true := by kernel_rfl

set_option maxRecDepth 100000 in
theorem lifted (os : Os) (started : os.Started) (H : Type) (enc : TypeId × Value → H) :
    ReturnsInHanded {} Try.checked os 7 .any (Rows.hashByteSpec.pre6 enc Try.prog Try.f7 Rows.hashByteRow.domain false) (Rows.hashByteSpec.post enc Try.prog Try.f7 false true false false) := by
  refine returnsInHanded_of_change (C := Try.checked) own started (by kernel_rfl) Try.func7
    (ChangeSpec.witness6 (enc := enc) (C := Try.checked) false ⟨#[], #[.slice none 0 0, .int .i64 0, .int .u8 0], []⟩ 8 (by kernel_rfl) (by kernel_rfl) (by kernel_rfl) (by kernel_rfl)) ?_
  intro W base args ds gs before hval0 hW hcnd _
  have hval : ∀ (j : Nat) t v, Try.f7.params[j]? = some t → args[j]? = some v → Value.okWide Try.prog W .any base t v := hval0
  have hW' := hW
  obtain ⟨p, q, hA0, hV, rfl, hfz, hnd⟩ := hW
  have hA : DataW.TrodAll enc Try.prog W 0 (fun _ => true) true Try.f7.params.toList args.toList ds p := hA0
  rw [Try.params7] at hA hval
  obtain ⟨v0, vs0, d0, ds0, p0, q0, hargs, rfl, rfl, h0, r0⟩ := trodAll_cons hA
  obtain ⟨v1, vs1, d1, ds1, p1, q1, rfl, rfl, rfl, h1, r1⟩ := trodAll_cons r0
  obtain ⟨v2, vs2, d2, ds2, p2, q2, rfl, rfl, rfl, h2, r2⟩ := trodAll_cons r1
  obtain ⟨rfl, rfl, rfl⟩ := trodAll_nil r2
  obtain rfl : args = #[v0, v1, v2] := by cases args; simp_all
  obtain ⟨rfl, rfl⟩ := trodVars_none hV
  have k0 := h0
  have lt0 : ∀ x ∈ p0, x.block < W.heap.size := by obtain ⟨m, hm⟩ := k0; exact DataW.trod_lt m _ _ _ hm
  obtain ⟨l0, b0⟩ := open_bytes (hval 0 25 v0 rfl rfl) h0
  obtain ⟨a1, rfl, rfl, rfl, w1⟩ := open_int Try.underlying3 (hval 1 3 v1 rfl rfl) h1
  obtain ⟨a2, rfl, rfl, rfl, w2⟩ := open_int Try.underlying5 (hval 2 5 v2 rfl rfl) h2
  clear hA0 hval0
  refine (walk W v0 l0 b0 a1 w1 a2 w2).mono fun e W' ⟨he, bel⟩ => ?_
  subst he
  exact ⟨_, rfl, _, _, _, [], _, [], hW', trodAll_mk1 (shut_bool Try.underlying4 _), (trodAll_cons_mk (Below.trod laidOut (by kernel_rfl) (of_decide_eq_true (by kernel_rfl)) k0 bel lt0) (trodAll_cons_mk (shut_int Try.underlying3 w1) (trodAll_cons_mk (shut_int Try.underlying5 w2) trodAll_mk0))), rfl, bel.frame _, fun h => by cases h⟩

theorem over : Rows.hashByteRow.holds Try.pinned (OpenSpec.ofChange Rows.hashByteSpec) :=
  OpenClaim.holds_of_wide 7 Try.f7 rfl rfl rfl rfl rfl rfl rfl ⟨rfl, rfl, rfl, rfl, rfl⟩ rfl rfl rfl rfl rfl (by kernel_rfl) Try.func7 (by kernel_rfl)
    (of_decide_eq_true (by kernel_rfl)) (by unfold Func.isWrapper; first | (rw [if_pos (by decide +kernel)]; kernel_rfl) | (rw [if_neg (by decide +kernel)]; exact ⟨rfl, rfl⟩))
    (fun os started H enc _ => lifted os started H enc)

/-- THE STATEMENT. -/
theorem proved : Rows.HashByteSaid := over
#print axioms proved
end Go.Proofs.Ythljchcpnbjokaa.hashByte
