import Derived.Test.YtjgcfffepkmojaaMStep
import Derived.Test.YtjgcfffepkmojaaPolV
namespace Go.Proofs.Ytjgcfffepkmojaa
open Go.RowKit
set_option linter.unusedVariables false

/-! ### What an instruction does, by its code -/
def xCodes : List Int := [12, 28, 44, 60, 76, 92, 108, 124, 156, 172, 29, 45, 61, 77]
def xb (c : Int) : Bool := decide (c ∈ xCodes)
def low (c : Int) : Int := if xb c then c - 8 else c
/-- Does a test hold? -/
def tst (c a k : Int) : Bool := if c = 21 then a == k else if c = 37 then decide (k < a) else if c = 53 then decide (k ≤ a) else !(bits .and .u32 a k == 0)
/-- Sums, and jumps by a test; c: the code without ByX, k: what is reckoned with. -/
def alu (c k : Int) (i : Ins) (m : Mc) : Mc :=
  if c = 4 then { m with a := (m.a + k) % 4294967296 } else if c = 20 then { m with a := (m.a - k) % 4294967296 } else if c = 36 then { m with a := m.a * k % 4294967296 }
  else if c = 52 then (if k = 0 then { m with e := true, v := 0 } else { m with a := m.a / k }) else if c = 148 then (if k = 0 then { m with e := true, v := 0 } else { m with a := m.a % k })
  else if c = 68 then { m with a := bits .or .u32 m.a k } else if c = 84 then { m with a := bits .and .u32 m.a k } else if c = 164 then { m with a := bits .xor .u32 m.a k }
  else if c = 100 then { m with a := m.a * 2 ^ (k % 32).toNat % 4294967296 } else if c = 116 then { m with a := m.a / 2 ^ (k % 32).toNat } else if c = 132 then { m with a := -m.a % 4294967296 }
  else { m with pc := m.pc + (if tst c m.a k then i.jt else i.jf).toNat }
/-- One step. -/
def stp (i : Ins) (r : ByteArray) (m : Mc) : Mc :=
  if i.code = 0 then { m with pc := m.pc + 1, a := i.k } else if i.code = 1 then { m with pc := m.pc + 1, x := i.k } else if i.code = 32 then { m with pc := m.pc + 1, a := wd r i.k.toNat }
  else if i.code = 96 then { m with pc := m.pc + 1, a := m.c i.k.toNat } else if i.code = 97 then { m with pc := m.pc + 1, x := m.c i.k.toNat }
  else if i.code = 128 then { m with pc := m.pc + 1, a := 64 } else if i.code = 129 then { m with pc := m.pc + 1, x := 64 }
  else if i.code = 2 then { m with pc := m.pc + 1, c := putc m.c i.k.toNat m.a } else if i.code = 3 then { m with pc := m.pc + 1, c := putc m.c i.k.toNat m.x }
  else if i.code = 7 then { m with pc := m.pc + 1, x := m.a } else if i.code = 135 then { m with pc := m.pc + 1, a := m.x } else if i.code = 5 then { m with pc := m.pc + 1 + i.k.toNat }
  else if i.code = 6 then { m with pc := m.pc + 1, e := true, v := i.k } else if i.code = 22 then { m with pc := m.pc + 1, e := true, v := m.a }
  else alu (low i.code) (if xb i.code then m.x else i.k) i { m with pc := m.pc + 1 }
structure Mc.ok (m : Mc) : Prop where
  a : U32 m.a
  x : U32 m.x
  c : ∀ k, U32 (m.c k)

theorem quo_eq (a k : Int) (ha : U32 a) (hk : U32 k) : a.tdiv k % 4294967296 = a / k := by
  rw [Int.tdiv_eq_ediv_of_nonneg ha.1]
  have h0 : 0 ≤ a / k := Int.ediv_nonneg ha.1 hk.1
  have h1 : a / k ≤ a := Int.ediv_le_self _ ha.1
  exact Int.emod_eq_of_lt h0 (by have := ha.2; omega)
theorem rem_eq (a k : Int) (ha : U32 a) (hk : U32 k) (h0 : k ≠ 0) : (a - a.tdiv k % 4294967296 * k) % 4294967296 = a % k := by
  rw [quo_eq a k ha hk]
  have hp : 0 < k := by have := hk.1; omega
  have h1 : a - a / k * k = a % k := by rw [Int.emod_def, Int.mul_comm k]
  rw [h1]
  have h2 := Int.emod_nonneg a h0
  have h3 := Int.emod_lt_of_pos a hp
  exact Int.emod_eq_of_lt h2 (by have := hk.2; omega)
theorem sh_eq (k : Int) (hk : U32 k) : k.tmod 32 = k % 32 := Int.tmod_eq_emod_of_nonneg hk.1
theorem known_of {i : Ins} {left : Int} (hf : flt i left = 0) : i.code ∈ allCodes := by
  by_cases h : i.code ∈ allCodes
  · exact h
  · unfold flt at hf
    rw [knd_other _ h] at hf
    simp at hf
end Go.Proofs.Ytjgcfffepkmojaa
