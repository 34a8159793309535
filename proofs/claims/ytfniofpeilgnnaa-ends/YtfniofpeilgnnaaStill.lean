import Derived.Test.YtfniofpeilgnnaaLent
namespace Go.Proofs.Ytfniofpeilgnnaa
open Go.RowKit
set_option linter.unusedVariables false

/-- Seg's cells at an instruction's place. -/
theorem Seg.ins {w : World} {b off : Nat} {l : List Ins} (h : Seg w b off (flat l)) (k : Nat) (hk : k < l.length) :
    w.cell? ⟨b, off + k * 4, none⟩ = some (.int .u16 (l[k]).code) ∧ w.cell? ⟨b, off + k * 4 + 1, none⟩ = some (.int .u8 (l[k]).jt) ∧ w.cell? ⟨b, off + k * 4 + 2, none⟩ = some (.int .u8 (l[k]).jf) ∧ w.cell? ⟨b, off + k * 4 + 3, none⟩ = some (.int .u32 (l[k]).k) := by
  refine ⟨?_, ?_, ?_, ?_⟩
  · exact h (k * 4 + 0) _ ((flat_get l k 0 hk (by decide)).trans rfl)
  · exact h (k * 4 + 1) _ ((flat_get l k 1 hk (by decide)).trans rfl)
  · exact h (k * 4 + 2) _ ((flat_get l k 2 hk (by decide)).trans rfl)
  · exact h (k * 4 + 3) _ ((flat_get l k 3 hk (by decide)).trans rfl)
theorem own_ins {w : World} {g n cap : Nat} {l : List Ins} (h : Own w 32 4 (some ⟨g, 0, none⟩) n cap (flat l)) (k : Nat) (hk : k < l.length) :
    w.cell? ⟨g, k * 4, none⟩ = some (.int .u16 (l[k]).code) ∧ w.cell? ⟨g, k * 4 + 1, none⟩ = some (.int .u8 (l[k]).jt) ∧ w.cell? ⟨g, k * 4 + 2, none⟩ = some (.int .u8 (l[k]).jf) ∧ w.cell? ⟨g, k * 4 + 3, none⟩ = some (.int .u32 (l[k]).k) := by
  refine ⟨?_, ?_, ?_, ?_⟩
  · exact own_get h ((flat_get l k 0 hk (by decide)).trans rfl)
  · exact own_get h ((flat_get l k 1 hk (by decide)).trans rfl)
  · exact own_get h ((flat_get l k 2 hk (by decide)).trans rfl)
  · exact own_get h ((flat_get l k 3 hk (by decide)).trans rfl)

end Go.Proofs.Ytfniofpeilgnnaa
