import Derived.Test.YtfniofpeilgnnaaCkSpec
namespace Go.Proofs.Ytfniofpeilgnnaa
open Go.RowKit
set_option linter.unusedVariables false

/-- What the reference finds wrong with an instruction of that name. -/
def wrgS (s : ByteArray) (x t : Bool) (i : Ins) (left : Int) : Int :=
  if s.toList = [] then 2 else if s.toList = [106, 117, 109, 112] ∧ left ≤ i.k then 3 else if t = true ∧ (left ≤ i.jt ∨ left ≤ i.jf) then 3 else if s.toList = [97, 61, 97, 116] ∧ (i.k % 4 ≠ 0 ∨ 64 ≤ i.k) then 4
  else if (s.toList = [97, 61, 99, 101, 108, 108] ∨ s.toList = [120, 61, 99, 101, 108, 108] ∨ s.toList = [99, 101, 108, 108, 61, 97] ∨ s.toList = [99, 101, 108, 108, 61, 120]) ∧ 16 ≤ i.k then 5
  else if (s.toList = [47] ∨ s.toList = [37]) ∧ x = false ∧ i.k = 0 then 6 else if (s.toList = [60, 60] ∨ s.toList = [62, 62]) ∧ x = false ∧ 32 ≤ i.k then 7 else 0
end Go.Proofs.Ytfniofpeilgnnaa
