import Derived.Test.YtjgcfffepkmojaaGreatPlainR
import Derived.Test.YtjgcfffepkmojaaGreatPRun
namespace Go.Proofs.YtjgcfffepkmojaaGreat
open Go.RowKit
set_option linter.unusedVariables false

theorem runs_as : RunsAs := fun w ao cap l hv hok r _ => sRun_any w ao cap l hv hok r
theorem good_34 : StepGood 3 4 := fun B o h1 h2 w1 hs hA hl ho => by
  by_cases h : o.kind = 3
  · exact good_check B o (by omega) (by omega) w1 hs hA hl ho
  · exact good_run runs_as B o (by omega) (by omega) w1 hs hA hl ho

set_option maxRecDepth 100000 in
theorem runs_any (w : World) (so : Option Addr) (cap : Nat) (ops : List OpR) (hv : View w so (ocs ops)) (hl : ops.length ≤ 1172812402926)
    (hok : ∀ o ∈ ops, o.okP w w.heap.size) :
    Calls Tryz.prog 5 #[.slice so ops.length cap] w fun e w' => e = .returned (.bool true) ∧ Fr nob w w' := by
  go_enter Tryz.func5, Tryz.ntmps5
  go_wp2_with fail
  refine (example_any _ 3 4 good_34).mono ?_
  rintro e w1 ⟨rfl, f1⟩
  have hsz := f1.size
  go_wp2_with fail
  refine (upto_any w1 so cap ops 3 4 (hv.fr0 f1) hl (fun o ho => (hok o ho).up f1 hsz) (fun o _ h1 h2 w1 hs hA hl ho => good_34 _ o h1 h2 w1 hs hA hl ho)).mono ?_
  rintro e w2 ⟨rfl, f2⟩
  have F := f1.trans f2
  clear f1 f2
  go_wp2
  go_ret
  exact ⟨rfl, F⟩
#print axioms runs_any
end Go.Proofs.YtjgcfffepkmojaaGreat
