import Derived.Test.YtfniofpeilgnnaaBase
namespace Go.Proofs.Ytfniofpeilgnnaa
open Go.RowKit
set_option linter.unusedVariables false

end Go.Proofs.Ytfniofpeilgnnaa
