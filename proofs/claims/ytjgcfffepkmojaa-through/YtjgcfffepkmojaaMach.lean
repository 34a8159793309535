import Derived.StillTailTactics
import Derived.Test.YtjgcfffepkmojaaKinds
import Derived.Test.YtjgcfffepkmojaaGood
import Derived.Test.YtjgcfffepkmojaaWDecode
namespace Go.Proofs.Ytjgcfffepkmojaa
open Go.RowKit
set_option linter.unusedVariables false

/-- A run, as it stands. -/
structure Mc where
  a : Int
  x : Int
  c : Nat → Int
  pc : Nat
  e : Bool
  v : Int
def mcs (m : Mc) : List Value := [.int .u32 m.a, .int .u32 m.x, .int .u32 (m.c 0), .int .u32 (m.c 1), .int .u32 (m.c 2), .int .u32 (m.c 3), .int .u32 (m.c 4), .int .u32 (m.c 5), .int .u32 (m.c 6), .int .u32 (m.c 7),
  .int .u32 (m.c 8), .int .u32 (m.c 9), .int .u32 (m.c 10), .int .u32 (m.c 11), .int .u32 (m.c 12), .int .u32 (m.c 13), .int .u32 (m.c 14), .int .u32 (m.c 15), .int .i64 m.pc, .bool m.e, .int .u32 m.v]
abbrev only (g : Nat) : Nat → Prop := fun k => k = g
theorem only_set {w w' : World} {g : Nat} (f : Fr (only g) w w') (j : Nat) (y : Value) : Fr (only g) w (w'.setCell ⟨g, j, none⟩ y) := f.setCell (p := ⟨g, j, none⟩) (fun _ => rfl) y

end Go.Proofs.Ytjgcfffepkmojaa
