import Derived.Test.YtjgcfffepkmojaaStates
namespace Go.Proofs.Ytjgcfffepkmojaa
open Go.RowKit
set_option linter.unusedVariables false

theorem bad_none {l : List Ins} {n : Nat} (h : pst l n n = none) : bad l n = false := by unfold bad; rw [h]
theorem bad_some {l : List Ins} {n S : Nat} (h : pst l n n = some S) : bad l n = (decide (knd (gI l n).code = 5) && !(S.testBit (gI l n).k.toNat)) := by unfold bad; rw [h]
theorem uns_at {l : List Ins} {i : Nat} (hlt : i < l.length) (hb : bad l i = true) (h : ∀ j, j < i → bad l j = false) : uns l = (9, (i : Int)) := by
  unfold uns
  rw [find_first (bad l) l.length i hlt hb h]
theorem uns_no {l : List Ins} (h : ∀ j, j < l.length → bad l j = false) : uns l = (0, 0) := by
  unfold uns
  rw [find_none _ _ h]

end Go.Proofs.Ytjgcfffepkmojaa
