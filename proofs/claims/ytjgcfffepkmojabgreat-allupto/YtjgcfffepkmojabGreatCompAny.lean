import Derived.Test.YtjgcfffepkmojabGreatCSem
import Derived.Test.YtjgcfffepkmojabGreatCWalk
import Derived.Test.YtjgcfffepkmojabGreatLComp
import Derived.Test.YtjgcfffepkmojabGreatLStep
import Derived.Test.YtjgcfffepkmojabGreatExG
namespace Go.Proofs.YtjgcfffepkmojabGreat
open Go.RowKit
set_option linter.unusedVariables false

theorem compiles_as : CompilesAs co where
  call := fun w arch els oth ao cap rs hv hl hf ha he ho => compile_any w arch els oth ao cap rs hv (by omega) (fun x hx => by have := (hf x hx).1; omega) (fun x hx => (hf x hx).2.2.2.2)
  bad := fun arch els oth rs hf h => co_bad arch els oth rs h
  good := fun arch els oth rs hf ha he ho h => by
    obtain ⟨h1, h2, h3⟩ := co_good arch els oth rs (fun x hx => ⟨(hf x hx).2.2.1, (hf x hx).2.2.2.1, (hf x hx).2.2.2.2⟩) ha he ho h
    exact ⟨h1, h2, fun r _ => h3 r⟩
#print axioms compiles_as
end Go.Proofs.YtjgcfffepkmojabGreat

namespace Go.Proofs.YtjgcfffepkmojabGreat
open Go.RowKit
set_option linter.unusedVariables false

end Go.Proofs.YtjgcfffepkmojabGreat
