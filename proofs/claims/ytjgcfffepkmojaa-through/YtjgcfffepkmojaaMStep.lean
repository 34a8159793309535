import Derived.StillTailTactics
import Derived.Test.YtjgcfffepkmojaaMach
import Derived.Deep.DeepCutAuto
namespace Go.Proofs.Ytjgcfffepkmojaa
open Go.RowKit
set_option linter.unusedVariables false

theorem mcs_cell (m : Mc) (k : Nat) (h : k < 16) : (mcs m)[2 + k]? = some (.int .u32 (m.c k)) := by
  match k, h with
  | 0, _ => rfl
  | 1, _ => rfl
  | 2, _ => rfl
  | 3, _ => rfl
  | 4, _ => rfl
  | 5, _ => rfl
  | 6, _ => rfl
  | 7, _ => rfl
  | 8, _ => rfl
  | 9, _ => rfl
  | 10, _ => rfl
  | 11, _ => rfl
  | 12, _ => rfl
  | 13, _ => rfl
  | 14, _ => rfl
  | 15, _ => rfl
  | n + 16, h => exact absurd h (by omega)
def putc (c : Nat → Int) (k : Nat) (y : Int) : Nat → Int := fun j => if j = k then y else c j
theorem mcs_put (m : Mc) (k : Nat) (h : k < 16) (y : Int) : (mcs m).set (2 + k) (.int .u32 y) = mcs { m with c := putc m.c k y } := by
  match k, h with
  | 0, _ => rfl
  | 1, _ => rfl
  | 2, _ => rfl
  | 3, _ => rfl
  | 4, _ => rfl
  | 5, _ => rfl
  | 6, _ => rfl
  | 7, _ => rfl
  | 8, _ => rfl
  | 9, _ => rfl
  | 10, _ => rfl
  | 11, _ => rfl
  | 12, _ => rfl
  | 13, _ => rfl
  | 14, _ => rfl
  | 15, _ => rfl
  | n + 16, h => exact absurd h (by omega)
def firstNames : List (List UInt8) := [[97, 61, 107], [120, 61, 107], [97, 61, 97, 116], [97, 61, 99, 101, 108, 108], [120, 61, 99, 101, 108, 108], [97, 61, 54, 52], [120, 61, 54, 52], [99, 101, 108, 108, 61, 97], [99, 101, 108, 108, 61, 120], [120, 61, 97], [97, 61, 120], [106, 117, 109, 112], [114, 101, 116, 107], [114, 101, 116, 97]]
end Go.Proofs.Ytjgcfffepkmojaa
