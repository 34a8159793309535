import Derived.Test.YtjgcfffepkmojaaWDecode
namespace Go.Proofs.Ytjgcfffepkmojaa
open Go.RowKit
set_option linter.unusedVariables false

/-- What a step may add to them. -/
abbrev grow (F : Nat → Prop) (w w' : World) : Nat → Prop := fun x => (F x ∨ w.heap.size ≤ x) ∧ x < w'.heap.size
/-- Blocks from B on may turn. -/
def up (B : Nat) : Nat → Prop := fun k => B ≤ k

def oneB (s : Sl) (b i r t : Sl) : Prop := b = s ∧ i = nilS ∧ r = nilS ∧ t = nilS
theorem sls_b {s : Sl} {x : Nat} (h : sls s nilS nilS nilS x) : bk (.slice s.a s.n s.c) x := by
  rcases h with h | h | h | h
  · exact h
  all_goals simp [bk, nilS, Value.ownBlock] at h
theorem sls_i {s : Sl} {x : Nat} (h : sls nilS s nilS nilS x) : bk (.slice s.a s.n s.c) x := by
  rcases h with h | h | h | h
  · simp [bk, nilS, Value.ownBlock] at h
  · exact h
  all_goals simp [bk, nilS, Value.ownBlock] at h

end Go.Proofs.Ytjgcfffepkmojaa

namespace Go.Proofs.Ytjgcfffepkmojaa
open Go.RowKit
set_option linter.unusedVariables false

/-- The value of a step. -/
abbrev opV (kind N : Int) (ao : Option Addr) (n cap : Nat) (s : ByteArray) (q0 : Int) (a1 : Option Addr) (n1 c1 : Nat) (q2 q3 : Int) (a2 : Option Addr) (n2 c2 : Nat) : Value :=
  .agg #[.int .i64 kind, .int .i64 N, .slice ao n cap, .string s, .int .u32 q0, .slice a1 n1 c1, .int .u32 q2, .int .u32 q3, .slice a2 n2 c2]

end Go.Proofs.Ytjgcfffepkmojaa

namespace Go.Proofs.Ytjgcfffepkmojaa
open Go.RowKit
set_option linter.unusedVariables false

theorem view_frB {S : Nat → Prop} {w w' : World} {ao : Option Addr} {xs : List Value} (h : View w ao xs) (f : Fr S w w') (hb : xs ≠ [] → ∀ b off, ao = some ⟨b, off, none⟩ → ¬ S b) : View w' ao xs := by
  by_cases hx : xs = []
  · exact .inl hx
  · exact h.fr f (hb hx)
theorem flat_ne {l : List Ins} (h : flat l ≠ []) : l ≠ [] := fun e => h (by rw [e]; rfl)

end Go.Proofs.Ytjgcfffepkmojaa
