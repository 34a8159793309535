import Derived.Test.YtfniofpeilgnnaaKeep
namespace Go.Proofs.Ytfniofpeilgnnaa
open Go.RowKit
set_option linter.unusedVariables false

theorem rep_get (r : List Value) (n k j : Nat) (hk : k < n) (hj : j < r.length) : (rep r n)[k * r.length + j]? = r[j]? := by
  induction n with
  | zero => omega
  | succ n ih =>
    have hl := rep_len r n
    rw [rep]
    by_cases h : k < n
    · have : k * r.length + j < n * r.length := by
        have := Nat.mul_le_mul_right r.length (show k + 1 ≤ n from h)
        rw [Nat.succ_mul] at this; omega
      rw [List.getElem?_append_left (by omega)]; exact ih h
    · have : k = n := by omega
      subst this
      rw [List.getElem?_append_right (by omega), hl, Nat.add_sub_cancel_left]
theorem mB_get (m : Int) (n k : Nat) (hk : k < n) : (mB m n)[k]? = some (.int .u8 (sgn m k)) := by
  simp [mB, hk]
theorem own_get {w : World} {e : TypeId} {size g : Nat} {n cap : Nat} {xs : List Value} (h : Own w e size (some ⟨g, 0, none⟩) n cap xs) {j : Nat} {v : Value} (hj : xs[j]? = some v) : w.cell? ⟨g, j, none⟩ = some v := by
  have hlt : j < xs.length := (List.getElem?_eq_some_iff.1 hj).1
  rw [own_cell h j hlt]; rw [List.getElem?_eq_some_iff] at hj; exact congrArg some hj.2

end Go.Proofs.Ytfniofpeilgnnaa
