import Derived.Test.YtfniofpeilgnnaaInv
namespace Go.Proofs.Ytfniofpeilgnnaa
open Go.RowKit
set_option linter.unusedVariables false

/-- Where the holds may lie behind 'keep'. -/
def KF (F : Nat → Prop) (w : World) (hb : Nat) (b i r t : Sl) : Nat → Prop := fun x => F x ∨ x = hb ∨ sls b i r t x ∨ w.heap.size ≤ x
/-- What 'keep' may write. -/
def KS (wb : Nat) (row : Sl) (hb : Nat) (b i r t : Sl) : Nat → Prop := fun x => x = wb ∨ bk (.slice row.a row.n row.c) x ∨ x = hb ∨ sls b i r t x

section
variable {w : World} {B wb : Nat} {ps : Value} {hs : List Nat} {F : Nat → Prop} {row : Sl} {hb : Nat} {b i r t : Sl} {m m0 : Int}

theorem own_xs {w : World} {e : TypeId} {size : Nat} {s : Sl} (h : Own w e size s.a s.n s.c s.xs) : PreS size s s := PreS.refl size s h.1

end

end Go.Proofs.Ytfniofpeilgnnaa
