/-
  Keyword of the program and of the reference, by its contract.
-/
import Derived.Test.YtodcgdiejmdaaaaDoorTSpan
namespace Go.Proofs.YtodcgdiejmdaaaaDoor
open Go.RowKit

set_option maxRecDepth 100000 in
set_option maxHeartbeats 2000000 in
theorem kw_any (l : List UInt8) (w : World) :
    Calls Tryd.prog 14 #[.string ⟨l.toArray⟩] w fun e w' => e = .returned (.bool (Tk.kw l)) ∧ w = w' := by
  have HK : Hid (Tk.kw l = Tk.kws.contains l) := rfl
  generalize Tk.kw l = b at *
  go_enter Tryd.func14, Tryd.ntmps14
  go_wp2
  all_goals go_ret
  all_goals refine ⟨congrArg (fun b => Ending.returned (Value.bool b)) ?_, rfl⟩
  all_goals rw [HK.out]
  all_goals simp_all only [Tk.kws, List.contains_cons, List.contains_nil, Bool.or_true, Bool.true_or, Bool.or_false, Bool.false_eq_true, Bool.or_self]
end Go.Proofs.YtodcgdiejmdaaaaDoor
