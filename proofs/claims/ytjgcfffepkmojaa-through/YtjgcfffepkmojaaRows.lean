/-
  No cell of these rows narrows 'for every input' (looked for: loops, veiled, ifaces, maps, wideKeys, modest, calm, conditions, laid).
  DERIVED. THE GIVEN ROWS OF THIS SEAT. 7 by the template 'for every input the law returns true; each argument reads behind the call as it read before'; 0 by the template 'total and deterministic' (their statements: YtjgcfffepkmojaaTotals.lean).
  GIVEN WITH THE SEED: the statements are not yours to turn. If you find one false, say at which input.
  Laid BY PROGRAM, IN A SANDBOX (cutbox-rows.mjs): the forced cells as the released guide's own fill.sh prints them over the translation a744c49da6f80372… (all of the seat's roots in one cut). By AI agents, Wed Nov 11 2026. No macro, syntax, notation, axiom, sorry.
-/
import Derived.Test.YtjgcfffepkmojaaChecked
import GoSem.Claim
import GoSem.ClaimJoined
import GoSem.ClaimMapViews
import Derived.JoinedTies
import Derived.KernelRfl
namespace Go.Proofs.Ytjgcfffepkmojaa
/- THE CELL 'sum', in the pinned program and in every row, IS THE sha256 OF THE DUMP (.gsa) THAT YtjgcfffepkmojaaProg.lean LOADS. Nothing in Lean hashes anything: it is a label: what it is worth is what the hold of that sum in a sandbox is worth. -/
noncomputable def Try.pinned : Pinned := { name := "ytjgcfffepkmojaa", sum := "a744c49da6f803720adff93255b548a3210147a480f8d74ce53551dda04e6331", checked := Try.checked }
namespace Rows
def none {H : Type} : Left H := { results := [], args := [] }

/-- 'sluicekeep.Ends': WHATEVER THE INPUT: true; the input reads as it did. -/
def endsSpec : ChangeSpec := { name := "ends", fn := fun _ => fun
  | [d1, d2] => { results := [.lit (.bool true)], args := [d1, d2] }
  | _ => none }
def endsRow : OpenClaim := { program := "ytjgcfffepkmojaa", sum := "a744c49da6f803720adff93255b548a3210147a480f8d74ce53551dda04e6331", func := "sluice/sluicekeep.Ends", spec := "ends", unfollowed := true, recurses := true, apart := false }
def EndsSaid : Prop := endsRow.holds Try.pinned (OpenSpec.ofChange endsSpec)

/-- ITS FALSE NEIGHBOUR: 'it returns false'. Refute it at one input. -/
def endsWrong : ChangeSpec := { name := "ends", fn := fun _ => fun
  | [d1, d2] => { results := [.lit (.bool false)], args := [d1, d2] }
  | _ => none }
def EndsWrongFalsely : Prop := endsRow.holds Try.pinned (OpenSpec.ofChange endsWrong)

/-- 'sluicekeep.Sums': WHATEVER THE INPUT: true; the input reads as it did. -/
def sumsSpec : ChangeSpec := { name := "sums", fn := fun _ => fun
  | [d1, d2] => { results := [.lit (.bool true)], args := [d1, d2] }
  | _ => none }
def sumsRow : OpenClaim := { program := "ytjgcfffepkmojaa", sum := "a744c49da6f803720adff93255b548a3210147a480f8d74ce53551dda04e6331", func := "sluice/sluicekeep.Sums", spec := "sums", unfollowed := true, recurses := true, apart := false }
def SumsSaid : Prop := sumsRow.holds Try.pinned (OpenSpec.ofChange sumsSpec)

/-- ITS FALSE NEIGHBOUR: 'it returns false'. Refute it at one input. -/
def sumsWrong : ChangeSpec := { name := "sums", fn := fun _ => fun
  | [d1, d2] => { results := [.lit (.bool false)], args := [d1, d2] }
  | _ => none }
def SumsWrongFalsely : Prop := sumsRow.holds Try.pinned (OpenSpec.ofChange sumsWrong)

/-- 'sluicekeep.Tests': WHATEVER THE INPUT: true; the input reads as it did. -/
def testsSpec : ChangeSpec := { name := "tests", fn := fun _ => fun
  | [d1, d2, d3, d4] => { results := [.lit (.bool true)], args := [d1, d2, d3, d4] }
  | _ => none }
def testsRow : OpenClaim := { program := "ytjgcfffepkmojaa", sum := "a744c49da6f803720adff93255b548a3210147a480f8d74ce53551dda04e6331", func := "sluice/sluicekeep.Tests", spec := "tests", unfollowed := true, recurses := true, apart := false }
def TestsSaid : Prop := testsRow.holds Try.pinned (OpenSpec.ofChange testsSpec)

/-- ITS FALSE NEIGHBOUR: 'it returns false'. Refute it at one input. -/
def testsWrong : ChangeSpec := { name := "tests", fn := fun _ => fun
  | [d1, d2, d3, d4] => { results := [.lit (.bool false)], args := [d1, d2, d3, d4] }
  | _ => none }
def TestsWrongFalsely : Prop := testsRow.holds Try.pinned (OpenSpec.ofChange testsWrong)

/-- 'sluicekeep.Cells': WHATEVER THE INPUT: true; the input reads as it did. -/
def cellsSpec : ChangeSpec := { name := "cells", fn := fun _ => fun
  | [d1, d2, d3, d4] => { results := [.lit (.bool true)], args := [d1, d2, d3, d4] }
  | _ => none }
def cellsRow : OpenClaim := { program := "ytjgcfffepkmojaa", sum := "a744c49da6f803720adff93255b548a3210147a480f8d74ce53551dda04e6331", func := "sluice/sluicekeep.Cells", spec := "cells", unfollowed := true, recurses := true, apart := false }
def CellsSaid : Prop := cellsRow.holds Try.pinned (OpenSpec.ofChange cellsSpec)

/-- ITS FALSE NEIGHBOUR: 'it returns false'. Refute it at one input. -/
def cellsWrong : ChangeSpec := { name := "cells", fn := fun _ => fun
  | [d1, d2, d3, d4] => { results := [.lit (.bool false)], args := [d1, d2, d3, d4] }
  | _ => none }
def CellsWrongFalsely : Prop := cellsRow.holds Try.pinned (OpenSpec.ofChange cellsWrong)

/-- 'sluicekeep.Policies': WHATEVER THE INPUT: true; the input reads as it did. -/
def policiesSpec : ChangeSpec := { name := "policies", fn := fun _ => fun
  | [d1, d2, d3, d4] => { results := [.lit (.bool true)], args := [d1, d2, d3, d4] }
  | _ => none }
def policiesRow : OpenClaim := { program := "ytjgcfffepkmojaa", sum := "a744c49da6f803720adff93255b548a3210147a480f8d74ce53551dda04e6331", func := "sluice/sluicekeep.Policies", spec := "policies", unfollowed := true, recurses := true, apart := false }
def PoliciesSaid : Prop := policiesRow.holds Try.pinned (OpenSpec.ofChange policiesSpec)

/-- ITS FALSE NEIGHBOUR: 'it returns false'. Refute it at one input. -/
def policiesWrong : ChangeSpec := { name := "policies", fn := fun _ => fun
  | [d1, d2, d3, d4] => { results := [.lit (.bool false)], args := [d1, d2, d3, d4] }
  | _ => none }
def PoliciesWrongFalsely : Prop := policiesRow.holds Try.pinned (OpenSpec.ofChange policiesWrong)

/-- 'sluicekeep.Through': WHATEVER THE INPUT: true; the input reads as it did. -/
def throughSpec : ChangeSpec := { name := "through", fn := fun _ => fun
  | [d1, d2] => { results := [.lit (.bool true)], args := [d1, d2] }
  | _ => none }
def throughRow : OpenClaim := { program := "ytjgcfffepkmojaa", sum := "a744c49da6f803720adff93255b548a3210147a480f8d74ce53551dda04e6331", func := "sluice/sluicekeep.Through", spec := "through", unfollowed := true, recurses := true, apart := false }
def ThroughSaid : Prop := throughRow.holds Try.pinned (OpenSpec.ofChange throughSpec)

/-- ITS FALSE NEIGHBOUR: 'it returns false'. Refute it at one input. -/
def throughWrong : ChangeSpec := { name := "through", fn := fun _ => fun
  | [d1, d2] => { results := [.lit (.bool false)], args := [d1, d2] }
  | _ => none }
def ThroughWrongFalsely : Prop := throughRow.holds Try.pinned (OpenSpec.ofChange throughWrong)

/-- 'sluicekeep.Strictest': WHATEVER THE INPUT: true; the input reads as it did. -/
def strictestSpec : ChangeSpec := { name := "strictest", fn := fun _ => fun
  | [d1, d2] => { results := [.lit (.bool true)], args := [d1, d2] }
  | _ => none }
def strictestRow : OpenClaim := { program := "ytjgcfffepkmojaa", sum := "a744c49da6f803720adff93255b548a3210147a480f8d74ce53551dda04e6331", func := "sluice/sluicekeep.Strictest", spec := "strictest", unfollowed := true, recurses := true, apart := false }
def StrictestSaid : Prop := strictestRow.holds Try.pinned (OpenSpec.ofChange strictestSpec)

/-- ITS FALSE NEIGHBOUR: 'it returns false'. Refute it at one input. -/
def strictestWrong : ChangeSpec := { name := "strictest", fn := fun _ => fun
  | [d1, d2] => { results := [.lit (.bool false)], args := [d1, d2] }
  | _ => none }
def StrictestWrongFalsely : Prop := strictestRow.holds Try.pinned (OpenSpec.ofChange strictestWrong)

/- THE SECOND FORM. 'bulk': how many values and letters a reading holds, each counted each time it is reached (what is shared counts as often as it is met; a slice's spare places count too). A statement '..UptoSaid' is the law's where the arguments, and the package variables that the reading takes, are together of bulk at most 1048576: NARROWER than '..Said'. Prove '..Said' where nothing that the law and all that it calls make is longer than what came in: it says more and counts as full. Else prove '..UptoSaid'. A law counts once. -/
mutual
def uptoBulk {H : Type} : DataW H → Nat
  | .lit (.string bytes) => bytes.length + 1
  | .lit _ => 1
  | .nil => 1
  | .ptr d => uptoBulk d + 1
  | .slice elems spare => uptoBulkAll elems + uptoBulkAll spare + 1
  | .agg parts => uptoBulkAll parts + 1
  | .iface _ d => uptoBulk d + 1
  | .map entries => uptoBulkEntries entries + 1
  | .held _ => 1
def uptoBulkAll {H : Type} : List (DataW H) → Nat
  | [] => 0
  | d :: r => uptoBulk d + uptoBulkAll r
def uptoBulkEntries {H : Type} : List (Lit × DataW H) → Nat
  | [] => 0
  | x :: r => uptoBulkEntry x + uptoBulkEntries r
def uptoBulkEntry {H : Type} : Lit × DataW H → Nat
  | (.string bytes, d) => bytes.length + uptoBulk d + 1
  | (_, d) => uptoBulk d + 1
 end
def uptoSmall : (H : Type) → List (DataW H) → Bool := fun _ ds => decide (uptoBulkAll ds ≤ 1048576)
def OpenSpec.upto (s : _root_.Go.ChangeSpec) : _root_.Go.OpenSpec := { _root_.Go.OpenSpec.ofChange s with cond := some uptoSmall }

/-- 'sluicekeep.Ends', WHERE WHAT IT READS IS OF BULK AT MOST 1048576: true; the input reads as it did. -/
def endsUptoRow : OpenClaim := { program := "ytjgcfffepkmojaa", sum := "a744c49da6f803720adff93255b548a3210147a480f8d74ce53551dda04e6331", func := "sluice/sluicekeep.Ends", spec := "ends", unfollowed := true, recurses := true, apart := false, narrowed := true }
def EndsUptoSaid : Prop := endsUptoRow.holds Try.pinned (OpenSpec.upto endsSpec)

/-- 'sluicekeep.Sums', WHERE WHAT IT READS IS OF BULK AT MOST 1048576: true; the input reads as it did. -/
def sumsUptoRow : OpenClaim := { program := "ytjgcfffepkmojaa", sum := "a744c49da6f803720adff93255b548a3210147a480f8d74ce53551dda04e6331", func := "sluice/sluicekeep.Sums", spec := "sums", unfollowed := true, recurses := true, apart := false, narrowed := true }
def SumsUptoSaid : Prop := sumsUptoRow.holds Try.pinned (OpenSpec.upto sumsSpec)

/-- 'sluicekeep.Tests', WHERE WHAT IT READS IS OF BULK AT MOST 1048576: true; the input reads as it did. -/
def testsUptoRow : OpenClaim := { program := "ytjgcfffepkmojaa", sum := "a744c49da6f803720adff93255b548a3210147a480f8d74ce53551dda04e6331", func := "sluice/sluicekeep.Tests", spec := "tests", unfollowed := true, recurses := true, apart := false, narrowed := true }
def TestsUptoSaid : Prop := testsUptoRow.holds Try.pinned (OpenSpec.upto testsSpec)

/-- 'sluicekeep.Cells', WHERE WHAT IT READS IS OF BULK AT MOST 1048576: true; the input reads as it did. -/
def cellsUptoRow : OpenClaim := { program := "ytjgcfffepkmojaa", sum := "a744c49da6f803720adff93255b548a3210147a480f8d74ce53551dda04e6331", func := "sluice/sluicekeep.Cells", spec := "cells", unfollowed := true, recurses := true, apart := false, narrowed := true }
def CellsUptoSaid : Prop := cellsUptoRow.holds Try.pinned (OpenSpec.upto cellsSpec)

/-- 'sluicekeep.Policies', WHERE WHAT IT READS IS OF BULK AT MOST 1048576: true; the input reads as it did. -/
def policiesUptoRow : OpenClaim := { program := "ytjgcfffepkmojaa", sum := "a744c49da6f803720adff93255b548a3210147a480f8d74ce53551dda04e6331", func := "sluice/sluicekeep.Policies", spec := "policies", unfollowed := true, recurses := true, apart := false, narrowed := true }
def PoliciesUptoSaid : Prop := policiesUptoRow.holds Try.pinned (OpenSpec.upto policiesSpec)

/-- 'sluicekeep.Through', WHERE WHAT IT READS IS OF BULK AT MOST 1048576: true; the input reads as it did. -/
def throughUptoRow : OpenClaim := { program := "ytjgcfffepkmojaa", sum := "a744c49da6f803720adff93255b548a3210147a480f8d74ce53551dda04e6331", func := "sluice/sluicekeep.Through", spec := "through", unfollowed := true, recurses := true, apart := false, narrowed := true }
def ThroughUptoSaid : Prop := throughUptoRow.holds Try.pinned (OpenSpec.upto throughSpec)

/-- 'sluicekeep.Strictest', WHERE WHAT IT READS IS OF BULK AT MOST 1048576: true; the input reads as it did. -/
def strictestUptoRow : OpenClaim := { program := "ytjgcfffepkmojaa", sum := "a744c49da6f803720adff93255b548a3210147a480f8d74ce53551dda04e6331", func := "sluice/sluicekeep.Strictest", spec := "strictest", unfollowed := true, recurses := true, apart := false, narrowed := true }
def StrictestUptoSaid : Prop := strictestUptoRow.holds Try.pinned (OpenSpec.upto strictestSpec)

end Rows
end Go.Proofs.Ytjgcfffepkmojaa
