import Derived.Test.YtfniofpeilgnnaaPlain
namespace Go.Proofs.Ytfniofpeilgnnaa
open Go.RowKit
set_option linter.unusedVariables false

/-- The value of a step. -/
abbrev opV (kind N : Int) (ao : Option Addr) (n cap : Nat) (s : ByteArray) (q0 : Int) (a1 : Option Addr) (n1 c1 : Nat) (q2 q3 : Int) (a2 : Option Addr) (n2 c2 : Nat) : Value :=
  .agg #[.int .i64 kind, .int .i64 N, .slice ao n cap, .string s, .int .u32 q0, .slice a1 n1 c1, .int .u32 q2, .int .u32 q3, .slice a2 n2 c2]

end Go.Proofs.Ytfniofpeilgnnaa
