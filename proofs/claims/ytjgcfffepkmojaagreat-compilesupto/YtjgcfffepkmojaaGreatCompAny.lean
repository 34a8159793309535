import Derived.Test.YtjgcfffepkmojaaGreatCSem
import Derived.Test.YtjgcfffepkmojaaGreatCWalk
import Derived.Test.YtjgcfffepkmojaaGreatLComp
import Derived.Test.YtjgcfffepkmojaaGreatLStep
import Derived.Test.YtjgcfffepkmojaaGreatExG
namespace Go.Proofs.YtjgcfffepkmojaaGreat
open Go.RowKit
set_option linter.unusedVariables false

theorem compiles_as : CompilesAs co where
  call := fun w arch els oth ao cap rs hv hl hf ha he ho => compile_any w arch els oth ao cap rs hv (by omega) (fun x hx => by have := (hf x hx).1; omega) (fun x hx => (hf x hx).2.2.2.2)
  bad := fun arch els oth rs hf h => co_bad arch els oth rs h
  good := fun arch els oth rs hf ha he ho h => by
    obtain ⟨h1, h2, h3⟩ := co_good arch els oth rs (fun x hx => ⟨(hf x hx).2.2.1, (hf x hx).2.2.2.1, (hf x hx).2.2.2.2⟩) ha he ho h
    exact ⟨h1, h2, fun r _ => h3 r⟩
#print axioms compiles_as
end Go.Proofs.YtjgcfffepkmojaaGreat

namespace Go.Proofs.YtjgcfffepkmojaaGreat
open Go.RowKit
set_option linter.unusedVariables false

set_option maxRecDepth 100000 in
theorem compiles_any (w : World) (so : Option Addr) (cap : Nat) (ops : List OpR) (hv : View w so (ocs ops)) (hl : ops.length ≤ 10000000)
    (hok : ∀ o ∈ ops, o.ok w w.heap.size) (hgr : (ops.map OpR.gr).sum ≤ 80000000) :
    Calls Tryz.prog 6 #[.slice so ops.length cap] w fun e w' => e = .returned (.bool true) ∧ Fr nob w w' := by
  go_enter Tryz.func6, Tryz.ntmps6
  go_wp2_with fail
  refine (example_g atW atW_wld _ 5 5 (good_comp co compiles_as)).mono ?_
  rintro e w1 ⟨rfl, f1⟩
  have hsz := f1.size
  go_wp2_with fail
  refine (upto_g w1 so cap ops 5 5 (hv.fr0 f1) hl (fun o ho => (hok o ho).up f1 hsz) (atW w1.heap.size) (atW_wld _) hgr (fun o _ h1 h2 w1 hs hA hl ho => good_comp co compiles_as _ o h1 h2 w1 hs hA hl ho)).mono ?_
  rintro e w2 ⟨rfl, f2⟩
  have F := f1.trans f2
  clear f1 f2
  go_wp2
  go_ret
  exact ⟨rfl, F⟩
#print axioms compiles_any
end Go.Proofs.YtjgcfffepkmojaaGreat
