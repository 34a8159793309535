import Derived.Test.YtjgcfffepkmojaaMRun
namespace Go.Proofs.Ytjgcfffepkmojaa
open Go.RowKit
set_option linter.unusedVariables false

theorem ret_vn {v v' : Int} {n n' : Nat} (h : v' = v) (k : n' = n) : Ending.returned (.tuple #[.int .u32 v, .int .i64 (n : Int)]) = .returned (.tuple #[.int .u32 v', .int .i64 (n' : Int)]) := by rw [h, k]
theorem ret_vne {a b c : Int} {p : Int × Int × Int} (h : p = (a, b, c)) : Ending.returned (.tuple #[.int .u32 a, .int .i64 b, .int .i64 c]) = .returned (.tuple #[.int .u32 p.1, .int .i64 p.2.1, .int .i64 p.2.2]) := by rw [h]
theorem fr_new {w w' : World} {S : Nat → Prop} {a : World} {g : Nat} (h : Fr S a w) (hg : a.heap.size ≤ g) (f : Fr (only g) w w') : Fr S a w' :=
  h.step f (fun x hx e => by have e' : x = g := e; omega)

end Go.Proofs.Ytjgcfffepkmojaa
