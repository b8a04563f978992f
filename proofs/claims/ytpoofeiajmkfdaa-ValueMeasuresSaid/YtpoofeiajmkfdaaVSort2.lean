/-
  The sort of pairs: the library's contract laid at this program, and what it says in this seat's words.
-/
import Derived.Shelf.SlSortCmp.WholeK
import Derived.Test.YtpoofeiajmkfdaaVSort1
import Derived.Test.YtpoofeiajmkfdaaVCmp3
import Derived.Test.YtpoofeiajmkfdaaVCopy
namespace Go.Proofs.Ytpoofeiajmkfdaa
open Go.RowKit

def Try.sortPair_ren : Go.Shelf.Ren := ⟨fun | 6 => 88 | 15 => 118 | 14 => 117 | 28 => 143 | 29 => 144 | 20 => 135 | 21 => 136 | 22 => 137 | 23 => 138 | 24 => 139 | 25 => 140 | 26 => 141 | 27 => 142 | 46 => 151 | 47 => 152 | 48 => 153 | 49 => 154 | 50 => 155 | 57 => 158 | n => n, fun | 22 => 64 | 24 => 67 | 25 => 93 | 3 => 3 | 39 => 100 | 0 => 0 | 53 => 130 | 55 => 118 | 4 => 4 | 46 => 124 | 45 => 123 | 50 => 74 | 5 => 5 | 9 => 9 | 66 => 139 | 70 => 95 | 76 => 145 | 77 => 146 | n => n, fun | n => n⟩
theorem Try.sortPair : Go.Proofs.SlLaysF0.n6 Try.prog Try.sortPair_ren := {
  mixed := by kernel_rfl,
  f6 := ⟨Try.f88.name, by decide, Try.func88.trans (congrArg some (by kernel_rfl))⟩,
  f14 := ⟨Try.f117.name, by decide, Try.func117.trans (congrArg some (by kernel_rfl))⟩,
  f15 := Try.func118.trans (congrArg some (by kernel_rfl)),
  f20 := ⟨Try.f135.name, by decide, Try.func135.trans (congrArg some (by kernel_rfl))⟩,
  f21 := ⟨Try.f136.name, by decide, Try.func136.trans (congrArg some (by kernel_rfl))⟩,
  f22 := ⟨Try.f137.name, by decide, Try.func137.trans (congrArg some (by kernel_rfl))⟩,
  f23 := ⟨Try.f138.name, by decide, Try.func138.trans (congrArg some (by kernel_rfl))⟩,
  f24 := ⟨Try.f139.name, by decide, Try.func139.trans (congrArg some (by kernel_rfl))⟩,
  f25 := ⟨Try.f140.name, by decide, Try.func140.trans (congrArg some (by kernel_rfl))⟩,
  f26 := ⟨Try.f141.name, by decide, Try.func141.trans (congrArg some (by kernel_rfl))⟩,
  f27 := ⟨Try.f142.name, by decide, Try.func142.trans (congrArg some (by kernel_rfl))⟩,
  f28 := Try.func143.trans (congrArg some (by kernel_rfl)),
  f29 := Try.func144.trans (congrArg some (by kernel_rfl)),
  f46 := ⟨Try.f151.name, by decide, Try.func151.trans (congrArg some (by kernel_rfl))⟩,
  f47 := Try.func152.trans (congrArg some (by kernel_rfl)),
  f48 := Try.func153.trans (congrArg some (by kernel_rfl)),
  f49 := ⟨Try.f154.name, by decide, Try.func154.trans (congrArg some (by kernel_rfl))⟩,
  f50 := ⟨Try.f155.name, by decide, Try.func155.trans (congrArg some (by kernel_rfl))⟩,
  f57 := ⟨Try.f158.name, by decide, Try.func158.trans (congrArg some (by kernel_rfl))⟩,
  t0 := Try.underlying0,
  a0 := Try.isAgg0,
  z0 := Try.sizeOf0,
  v0 := Try.zeroValue0,
  t3 := Try.underlying3,
  a3 := Try.isAgg3,
  z3 := Try.sizeOf3,
  v3 := Try.zeroValue3,
  t4 := Try.underlying4,
  a4 := Try.isAgg4,
  z4 := Try.sizeOf4,
  v4 := Try.zeroValue4,
  t5 := Try.underlying5,
  a5 := Try.isAgg5,
  z5 := Try.sizeOf5,
  v5 := Try.zeroValue5,
  t9 := Try.underlying9,
  a9 := Try.isAgg9,
  z9 := Try.sizeOf9,
  v9 := Try.zeroValue9,
  t22 := Try.underlying64,
  a22 := Try.isAgg64,
  z22 := Try.sizeOf64,
  v22 := Try.zeroValue64,
  t25 := Try.underlying93,
  a25 := Try.isAgg93,
  z25 := Try.sizeOf93,
  v25 := Try.zeroValue93,
  t39 := Try.underlying100,
  a39 := Try.isAgg100,
  z39 := Try.sizeOf100,
  v39 := Try.zeroValue100,
  t45 := Try.underlying123,
  a45 := Try.isAgg123,
  z45 := Try.sizeOf123,
  v45 := Try.zeroValue123,
  t46 := Try.underlying124,
  a46 := Try.isAgg124,
  z46 := Try.sizeOf124,
  v46 := Try.zeroValue124,
  t50 := Try.underlying74,
  a50 := Try.isAgg74,
  z50 := Try.sizeOf74,
  v50 := Try.zeroValue74,
  t53 := Try.underlying130,
  a53 := Try.isAgg130,
  z53 := Try.sizeOf130,
  v53 := Try.zeroValue130,
  t55 := Try.underlying118,
  a55 := Try.isAgg118,
  z55 := Try.sizeOf118,
  v55 := Try.zeroValue118,
  t66 := Try.underlying139,
  a66 := Try.isAgg139,
  z66 := Try.sizeOf139,
  v66 := Try.zeroValue139,
  t70 := Try.underlying95,
  a70 := Try.isAgg95,
  z70 := Try.sizeOf95,
  v70 := Try.zeroValue95,
  t76 := Try.underlying145,
  a76 := Try.isAgg145,
  z76 := Try.sizeOf145,
  v76 := Try.zeroValue145,
  t77 := Try.underlying146,
  a77 := Try.isAgg146,
  z77 := Try.sizeOf146,
  v77 := Try.zeroValue146
}

/-- An item's five cells, and a pair's six. -/
abbrev ID := Int × Int × ByteArray × (Option Addr × Nat × Nat) × (Option Addr × Nat × Nat)
abbrev PD := ByteArray × ID
def encI (x : ID) : List Value := [.int .i64 x.1, .int .i64 x.2.1, .string x.2.2.1, .slice x.2.2.2.1.1 x.2.2.2.1.2.1 x.2.2.2.1.2.2, .slice x.2.2.2.2.1 x.2.2.2.2.2.1 x.2.2.2.2.2.2]
def encD (x : PD) : List Value := .string x.1 :: encI x.2
theorem encD_len (x : PD) : (encD x).length = 6 := rfl
theorem encD_one (x : PD) : ∀ v ∈ encD x, v.oneCell' = true := by
  intro v hv
  simp only [encD, encI, List.mem_cons, List.not_mem_nil, or_false] at hv
  rcases hv with rfl | rfl | rfl | rfl | rfl | rfl <;> rfl
def cfD (x y : PD) : Int := V.cS x.1 y.1

theorem ltD (x y : PD) : Go.Proofs.ltOf cfD x y = V.lt x.1 y.1 := by
  unfold Go.Proofs.ltOf cfD V.cS
  cases h1 : V.lt x.1 y.1 <;> cases h2 : V.lt y.1 x.1 <;> simp
theorem lt_ntrans {a b c : ByteArray} (h : V.lt a b = false) (k : V.lt b c = false) : V.lt a c = false := by
  cases e : V.lt a c with
  | false => rfl
  | true =>
    cases f : V.lt b a with
    | true => have := V.lt_trans f e; rw [k] at this; cases this
    | false =>
      have := V.lt_total h f
      subst this
      rw [k] at e
      cases e
theorem swoD : Go.Sort.SWO (Go.Proofs.ltOf cfD) where
  irrefl x := by rw [ltD]; exact V.lt_irrefl _
  trans x y z h1 h2 := by rw [ltD] at *; exact V.lt_trans h1 h2
  ntrans x y z h1 h2 := by rw [ltD] at *; exact lt_ntrans h1 h2

set_option maxRecDepth 100000 in
set_option maxHeartbeats 1000000 in
theorem closure_any (x y : PD) (W : World) : Calls Try.prog 89 #[.agg (encD x).toArray, .agg (encD y).toArray] W fun e w' => e = .returned (.int .i64 (cfD x y)) ∧ ∃ q os', w' = Go.Sort.grow (W.drewN q) os' := by
  have C := hid (compareS x.1 y.1)
  have HD : Hid (cfD x y = V.cS x.1 y.1) := by show _ = _; rfl
  generalize cfD x y = r at HD
  unfold encD encI
  go_enter Try.func89, Try.ntmps89
  go_wp2_with (go_at_call 90; refine (C.out _).mono ?_; rintro e w' ⟨rfl, rfl⟩)
  go_ret
  exact ⟨ret_int HD.out.symm, 0, _, by rw [Go.Sort.alloc_eq_grow, Go.Sort.alloc_eq_grow, Go.Sort.grow_grow]; rfl⟩

theorem eg89 : ∀ args w, (callFunc 89 args).run Try.prog w = .ok (.enter 89 args) w := enters_of Try.func89 (by kernel_rfl) rfl

theorem sort_any (g cap : Nat) (d : Array PD) (w : World) (hH : Go.Sort.HoldsK encD 6 w g 0 d) (hg : g < w.heap.size) (hsz : d.size < 4611686018427387904) :
    Calls Try.prog 88 #[.slice (some ⟨g, 0, none⟩) d.size cap, .func (.func 89) #[] #[]] w fun e w' =>
      e = .returned (.tuple #[]) ∧ ∃ d' n os, Go.Sort.PermIn 0 d.size d d' ∧ Go.Sort.SortedIn (Go.Proofs.ltOf cfD) 0 d.size d' ∧ w' = Go.Proofs.sortWorldK encD 6 w g 0 n d' os :=
  Go.Proofs.AnyQ.slices_SortFunc Try.sortPair 6 Try.isAgg67 Try.sizeOf67 encD encD_len encD_one cfD swoD 89 #[] g 0 cap d w eg89 (fun _ _ _ _ x y => closure_any x y _) hH hg hsz
end Go.Proofs.Ytpoofeiajmkfdaa
