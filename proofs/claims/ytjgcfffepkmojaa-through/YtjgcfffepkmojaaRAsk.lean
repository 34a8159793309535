import Derived.Test.YtjgcfffepkmojaaPolV
import Derived.Test.YtjgcfffepkmojaaGood
import Derived.Deep.QuietTactic
import Derived.BigQuiet
import Derived.Deep.RegionHeld3
import Derived.Deep.DeepCutAuto
namespace Go.Proofs.Ytjgcfffepkmojaa
open Go.RowKit
set_option linter.unusedVariables false

/-! ### Policies -/
/-- The argument that a test asks of. -/
def arg64 (r : ByteArray) (n : Nat) : Int := wd r (16 + 8 * n) + wd r (16 + 8 * n + 4) * 4294967296
/-- Does a test hold? -/
def hldA (t : Tst) (a : Int) : Bool :=
  if t.how = 0 then a == t.value else if t.how = 1 then !(a == t.value) else if t.how = 2 then decide (a < t.value) else if t.how = 3 then decide (a ≤ t.value) else if t.how = 4 then decide (t.value < a)
  else if t.how = 5 then decide (t.value ≤ a) else bits .and .u64 a t.mask == t.value
def Tst.may (t : Tst) : Prop := (0 ≤ t.arg ∧ t.arg ≤ 5) ∧ (0 ≤ t.how ∧ t.how ≤ 6)
/-! ### May a policy be? -/
def Tst.mayB (t : Tst) : Bool := decide (0 ≤ t.arg) && decide (t.arg ≤ 5) && decide (0 ≤ t.how) && decide (t.how ≤ 6)
theorem Tst.mayB_iff (t : Tst) : t.mayB = true ↔ t.may := by
  unfold Tst.mayB Tst.may
  simp only [Bool.and_eq_true, decide_eq_true_eq]
  omega
def Rul.mayB (x : Rul) : Bool := decide (x.ts.length ≤ 6) && x.ts.all Tst.mayB
def mayS (rs : List Rul) : Bool := decide (rs.length ≤ 40) && rs.all Rul.mayB
theorem all_false {α : Type} {p : α → Bool} {l : List α} {k : Nat} (hk : k < l.length) (h : p l[k] = false) : l.all p = false := by
  rw [List.all_eq_false]
  exact ⟨l[k], List.getElem_mem hk, by simp [h]⟩
theorem all_true {α : Type} {p : α → Bool} {l : List α} (h : ∀ k (hk : k < l.length), p l[k] = true) : l.all p = true := by
  rw [List.all_eq_true]
  intro x hx
  obtain ⟨k, hk, rfl⟩ := List.getElem_of_mem hx
  exact h k hk
end Go.Proofs.Ytjgcfffepkmojaa

namespace Go.Proofs.Ytjgcfffepkmojaa
open Go.RowKit
set_option linter.unusedVariables false

/-! ### What a policy says -/
abbrev hldR (r : ByteArray) (t : Tst) : Bool := hldA t (arg64 r t.arg.toNat)
def fitS (r : ByteArray) (x : Rul) : Bool := (wd r 0 == x.number) && x.ts.all (hldR r)
def askS (arch els oth : Int) (rs : List Rul) (r : ByteArray) : Int := if wd r 4 = arch then (match rs.find? (fitS r) with | some x => x.verdict | none => els) else oth
theorem find_at {α : Type} {p : α → Bool} {l : List α} {i : Nat} (hi : i < l.length) (hp : p l[i] = true) (hb : ∀ j (hj : j < l.length), j < i → p l[j] = false) : l.find? p = some l[i] := by
  rw [List.find?_eq_some_iff_getElem]
  exact ⟨hp, i, hi, rfl, fun j hj => by simp [hb j (by omega) hj]⟩
theorem find_no {α : Type} {p : α → Bool} {l : List α} (hb : ∀ j (hj : j < l.length), p l[j] = false) : l.find? p = none := by
  rw [List.find?_eq_none]
  intro x hx
  obtain ⟨j, hj, rfl⟩ := List.getElem_of_mem hx
  simp [hb j hj]
theorem take_all {α : Type} {p : α → Bool} {l : List α} {k : Nat} (hk : k < l.length) : (l.take (k + 1)).all p = ((l.take k).all p && p l[k]) := by
  rw [List.take_succ_eq_append_getElem hk, List.all_append]; simp

end Go.Proofs.Ytjgcfffepkmojaa
