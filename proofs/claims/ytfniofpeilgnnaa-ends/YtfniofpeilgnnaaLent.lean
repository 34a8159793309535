import Derived.Test.YtfniofpeilgnnaaLists
namespace Go.Proofs.Ytfniofpeilgnnaa
open Go.RowKit
set_option linter.unusedVariables false

theorem made_rep (z : Array Value) (n s : Nat) (hs : z.size = s) (h0 : 0 < s) : (madeCells z (n * s)).toList = rep z.toList n := by
  subst hs
  apply List.ext_getElem?
  intro j
  by_cases hj : j < n * z.size
  · have h1 : j / z.size < n := (Nat.div_lt_iff_lt_mul h0).2 hj
    have h2 : j % z.size < z.toList.length := by simpa using Nat.mod_lt j h0
    have h3 := rep_get z.toList n (j / z.size) (j % z.size) h1 h2
    rw [show j / z.size * z.toList.length + j % z.size = j by simp only [Array.length_toList]; rw [Nat.mul_comm]; exact Nat.div_add_mod j z.size] at h3
    rw [h3]
    simp at h2
    simp [madeCells, hj, h2]
  · have hl := rep_len z.toList n
    simp only [Array.length_toList] at hl
    rw [List.getElem?_eq_none (by simp [madeCells]; omega), List.getElem?_eq_none (by omega)]
def zIns : Ins := ⟨0, 0, 0, 0⟩
theorem rep_flat (x : Ins) (n : Nat) : rep x.cs n = flat (List.replicate n x) := by
  induction n with
  | zero => rfl
  | succ n ih => rw [rep, ih, List.replicate_succ', flat_append, flat_one]
theorem rep_drop (r : List Value) (n m : Nat) : (rep r (n + m)).drop (n * r.length) = rep r m := by
  induction m with
  | zero => rw [Nat.add_zero, List.drop_of_length_le (by rw [rep_len]; exact Nat.le_refl _)]; rfl
  | succ m ih =>
    rw [← Nat.add_assoc, rep, rep, List.drop_append_of_le_length (by rw [rep_len]; exact Nat.mul_le_mul_right _ (by omega)), ih]
theorem hide {p : Prop} (h : p) : Hid p := h
def b201 (n : Nat) : List Value := List.replicate n (.int .u8 201)

end Go.Proofs.Ytfniofpeilgnnaa
