import Derived.Test.YtfniofpeilgnnaaWDecode
namespace Go.Proofs.Ytfniofpeilgnnaa
open Go.RowKit
set_option linter.unusedVariables false

/-- What a step may add to them. -/
abbrev grow (F : Nat → Prop) (w w' : World) : Nat → Prop := fun x => (F x ∨ w.heap.size ≤ x) ∧ x < w'.heap.size
/-- Blocks from B on may turn. -/
def up (B : Nat) : Nat → Prop := fun k => B ≤ k

def oneB (s : Sl) (b i r t : Sl) : Prop := b = s ∧ i = nilS ∧ r = nilS ∧ t = nilS
theorem sls_b {s : Sl} {x : Nat} (h : sls s nilS nilS nilS x) : bk (.slice s.a s.n s.c) x := by
  rcases h with h | h | h | h
  · exact h
  all_goals simp [bk, nilS, Value.ownBlock] at h
theorem sls_i {s : Sl} {x : Nat} (h : sls nilS s nilS nilS x) : bk (.slice s.a s.n s.c) x := by
  rcases h with h | h | h | h
  · simp [bk, nilS, Value.ownBlock] at h
  · exact h
  all_goals simp [bk, nilS, Value.ownBlock] at h

end Go.Proofs.Ytfniofpeilgnnaa
