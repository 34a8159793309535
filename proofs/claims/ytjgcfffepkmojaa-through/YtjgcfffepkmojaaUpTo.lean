import Derived.Test.YtjgcfffepkmojaaPolV
namespace Go.Proofs.Ytjgcfffepkmojaa
open Go.RowKit
set_option linter.unusedVariables false

/-- A step of a script, as the model's numbers. -/
structure OpR where
  kind : Int
  N : Int
  ao : Option Addr
  cap : Nat
  l : List Ins
  s : ByteArray
  q0 : Int
  a1 : Option Addr
  n1 : Nat
  c1 : Nat
  q2 : Int
  q3 : Int
  a2 : Option Addr
  n2 : Nat
  c2 : Nat
def OpR.cs (o : OpR) : List Value := [.int .i64 o.kind, .int .i64 o.N, .slice o.ao o.l.length o.cap, .string o.s, .int .u32 o.q0, .slice o.a1 o.n1 o.c1, .int .u32 o.q2, .int .u32 o.q3, .slice o.a2 o.n2 o.c2]
abbrev OpR.v (o : OpR) : Value := opV o.kind o.N o.ao o.l.length o.cap o.s o.q0 o.a1 o.n1 o.c1 o.q2 o.q3 o.a2 o.n2 o.c2
/-- What is asked of a step's arguments: they read as data, lie below B, are no longer than that. -/
structure OpR.ok (w : World) (B : Nat) (o : OpR) : Prop where
  v : View w o.ao (flat o.l)
  vB : o.l ≠ [] → ∀ b off, o.ao = some ⟨b, off, none⟩ → b < B
  z : o.ao = none → o.l.length = 0
  l : o.l.length ≤ 10000000
  i : ∀ x ∈ o.l, x.ok
  s : o.s.size ≤ 10000000
  n : I64 o.N
  q : U32 o.q0 ∧ U32 o.q2 ∧ U32 o.q3
  pol : ∃ rs : List Rul, o.n1 = rs.length ∧ PolV w B o.a1 rs
  str : ∃ ss : List ByteArray, o.n2 = ss.length ∧ StrV w B o.a2 ss
theorem OpR.ok.fr {w w' : World} {B : Nat} {o : OpR} (h : o.ok w B) (f : Fr (up B) w w') : o.ok w' B :=
  ⟨view_frB h.v f (fun hne b off e => by have := h.vB (flat_ne hne) b off e; simp only [up]; omega), h.vB, h.z, h.l, h.i, h.s, h.n, h.q, h.pol.imp (fun _ hr => ⟨hr.1, hr.2.fr f⟩), h.str.imp (fun _ hr => ⟨hr.1, hr.2.fr f⟩)⟩
theorem OpR.ok.up {w w' : World} {B B' : Nat} {o : OpR} (h : o.ok w B) (f : Fr nob w w') (hB : B ≤ B') : o.ok w' B' :=
  ⟨h.v.fr0 f, fun hne b off e => Nat.lt_of_lt_of_le (h.vB hne b off e) hB, h.z, h.l, h.i, h.s, h.n, h.q, h.pol.imp (fun _ hr => ⟨hr.1, hr.2.up f hB⟩), h.str.imp (fun _ hr => ⟨hr.1, hr.2.up f hB⟩)⟩
def ocs : List OpR → List Value
  | [] => []
  | o :: l => o.cs ++ ocs l
theorem ocs_len (l : List OpR) : (ocs l).length = l.length * 9 := by
  induction l with
  | nil => rfl
  | cons x l ih => simp [ocs, OpR.cs, ih]; omega
theorem ocs_get (l : List OpR) (k j : Nat) (hk : k < l.length) (hj : j < 9) : (ocs l)[k * 9 + j]? = (l[k]).cs[j]? := by
  induction l generalizing k with
  | nil => simp at hk
  | cons x l ih =>
    cases k with
    | zero => simp only [ocs]; rw [List.getElem?_append_left (by simp [OpR.cs]; omega)]; simp
    | succ k =>
      simp only [ocs]
      rw [List.getElem?_append_right (by simp [OpR.cs]; omega)]
      have := ih k (by simpa using hk)
      rw [show (k + 1) * 9 + j - x.cs.length = k * 9 + j by simp [OpR.cs]; omega]
      simpa using this

end Go.Proofs.Ytjgcfffepkmojaa
