import Derived.Test.YtfniofpeilgnnaaDecode
import Derived.Test.YtfniofpeilgnnaaReadInsn
namespace Go.Proofs.Ytfniofpeilgnnaa
open Go.RowKit
set_option linter.unusedVariables false

end Go.Proofs.Ytfniofpeilgnnaa
