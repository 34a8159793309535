import Derived.StillTailTactics
import Derived.Test.YtjgcfffepkmojaaRLaws
namespace Go.Proofs.Ytjgcfffepkmojaa
open Go.RowKit
set_option linter.unusedVariables false

theorem seg_x {w : World} {b off n : Nat} {l : List Ins} {x : Ins} (h : Seg w b off (flat l)) (hn : n < l.length) (hx : x = gI l n) :
    w.cell? ⟨b, off + n * 4, none⟩ = some (.int .u16 x.code) ∧ w.cell? ⟨b, off + n * 4 + 1, none⟩ = some (.int .u8 x.jt) ∧ w.cell? ⟨b, off + n * 4 + 2, none⟩ = some (.int .u8 x.jf) ∧ w.cell? ⟨b, off + n * 4 + 3, none⟩ = some (.int .u32 x.k) := by
  have := h.ins n hn
  rw [← gI_eq l n hn, ← hx] at this
  exact this
theorem sc_two (l : List Ins) (n : Nat) : (sc l n).length ≤ 2 := by
  unfold sc
  split
  · simp
  · split
    · simp
    · split <;> simp
end Go.Proofs.Ytjgcfffepkmojaa
