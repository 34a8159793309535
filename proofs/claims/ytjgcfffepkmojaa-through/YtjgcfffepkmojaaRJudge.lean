import Derived.Test.YtjgcfffepkmojaaRRun
import Derived.Test.YtjgcfffepkmojaaRAsk
namespace Go.Proofs.Ytjgcfffepkmojaa
open Go.RowKit
set_option linter.unusedVariables false

/-! ### Judging -/
def rnk (v : Int) : Int :=
  if v / 65536 = 0 then 1 else if v / 65536 = 3 then 2 else if v / 65536 = 5 then 3 else if v / 65536 = 32704 then 4 else if v / 65536 = 32752 then 5 else if v / 65536 = 32764 then 6 else if v / 65536 = 32767 then 7 else 0
structure Prg where
  a : Option Addr
  cap : Nat
  l : List Ins
def Prg.v (p : Prg) : Value := .slice p.a p.l.length p.cap
def pcs : List Prg → List Value := cat (fun p => [p.v])
/-- One program more: the best verdict so far, and whose it is. -/
def jst (s : Int × Int) (n : Nat) (v : Int) : Int × Int := if s.2 < 0 ∨ rnk v ≤ rnk s.1 then (v, (n : Int)) else s
def jdgN (ls : List Prg) (r : ByteArray) : Nat → Int × Int
  | 0 => (2147418112, -1)
  | n + 1 => match ls[n]? with
    | some p => jst (jdgN ls r n) n (ver p.l r)
    | none => jdgN ls r n
theorem jdgN_succ {ls : List Prg} {r : ByteArray} {n : Nat} (h : n < ls.length) : jdgN ls r (n + 1) = jst (jdgN ls r n) n (ver ls[n].l r) := by
  show (match ls[n]? with | some p => jst (jdgN ls r n) n (ver p.l r) | none => jdgN ls r n) = _
  rw [List.getElem?_eq_getElem h]
/-- What Judge answers. -/
def jdgA (ls : List Prg) (r : ByteArray) : Int × Int × Int := if r.size = 64 then ((jdgN ls r ls.length).1, (jdgN ls r ls.length).2, 0) else (0, 0, 10)
theorem jdgN_bd (ls : List Prg) (r : ByteArray) (n : Nat) : -1 ≤ (jdgN ls r n).2 ∧ (jdgN ls r n).2 ≤ n := by
  induction n with
  | zero => exact ⟨(show (-1 : Int) ≤ -1 by decide), (show (-1 : Int) ≤ 0 by decide)⟩
  | succ n ih =>
    show -1 ≤ (match ls[n]? with | some p => jst (jdgN ls r n) n (ver p.l r) | none => jdgN ls r n).2 ∧ (match ls[n]? with | some p => jst (jdgN ls r n) n (ver p.l r) | none => jdgN ls r n).2 ≤ _
    cases ls[n]? with
    | none => exact ⟨ih.1, by show (jdgN ls r n).2 ≤ _; omega⟩
    | some p =>
      show -1 ≤ (jst (jdgN ls r n) n (ver p.l r)).2 ∧ (jst (jdgN ls r n) n (ver p.l r)).2 ≤ _
      unfold jst
      split
      · exact ⟨by show -1 ≤ (n : Int); omega, by show (n : Int) ≤ _; omega⟩
      · exact ⟨ih.1, by omega⟩

end Go.Proofs.Ytjgcfffepkmojaa
