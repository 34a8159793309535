import Derived.Test.YtfniofpeilgnnaaEncode
import Derived.Lib.EndianBits

namespace Go.Proofs.Ytfniofpeilgnnaa
open Go.RowKit
set_option linter.unusedVariables false

end Go.Proofs.Ytfniofpeilgnnaa
