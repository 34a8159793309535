import Derived.Test.YtfniofpeilgnnaaPlainD
namespace Go.Proofs.Ytfniofpeilgnnaa
open Go.RowKit
set_option linter.unusedVariables false

theorem view_frB {S : Nat → Prop} {w w' : World} {ao : Option Addr} {xs : List Value} (h : View w ao xs) (f : Fr S w w') (hb : xs ≠ [] → ∀ b off, ao = some ⟨b, off, none⟩ → ¬ S b) : View w' ao xs := by
  by_cases hx : xs = []
  · exact .inl hx
  · exact h.fr f (hb hx)
theorem flat_ne {l : List Ins} (h : flat l ≠ []) : l ≠ [] := fun e => h (by rw [e]; rfl)

end Go.Proofs.Ytfniofpeilgnnaa
