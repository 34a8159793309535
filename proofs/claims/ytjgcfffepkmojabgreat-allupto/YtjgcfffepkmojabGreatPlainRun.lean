import Derived.Test.YtjgcfffepkmojabGreatPlainR
import Derived.Test.YtjgcfffepkmojabGreatPRun
namespace Go.Proofs.YtjgcfffepkmojabGreat
open Go.RowKit
set_option linter.unusedVariables false

theorem runs_as : RunsAs := fun w ao cap l hv hok r _ => sRun_any w ao cap l hv hok r
theorem good_34 : StepGood 3 4 := fun B o h1 h2 w1 hs hA hl ho => by
  by_cases h : o.kind = 3
  · exact good_check B o (by omega) (by omega) w1 hs hA hl ho
  · exact good_run runs_as B o (by omega) (by omega) w1 hs hA hl ho

end Go.Proofs.YtjgcfffepkmojabGreat
