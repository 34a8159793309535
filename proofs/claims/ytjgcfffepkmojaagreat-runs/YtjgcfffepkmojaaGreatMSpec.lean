import Derived.Test.YtjgcfffepkmojaaGreatMStep
import Derived.Test.YtjgcfffepkmojaaGreatPolV
namespace Go.Proofs.YtjgcfffepkmojaaGreat
open Go.RowKit
set_option linter.unusedVariables false

/-! ### What an instruction does, by its code -/
def xCodes : List Int := [12, 28, 44, 60, 76, 92, 108, 124, 156, 172, 29, 45, 61, 77]
def xb (c : Int) : Bool := decide (c ∈ xCodes)
def low (c : Int) : Int := if xb c then c - 8 else c
/-- Does a test hold? -/
def tst (c a k : Int) : Bool := if c = 21 then a == k else if c = 37 then decide (k < a) else if c = 53 then decide (k ≤ a) else !(bits .and .u32 a k == 0)
/-- Sums, and jumps by a test; c: the code without ByX, k: what is reckoned with. -/
def alu (c k : Int) (i : Ins) (m : Mc) : Mc :=
  if c = 4 then { m with a := (m.a + k) % 4294967296 } else if c = 20 then { m with a := (m.a - k) % 4294967296 } else if c = 36 then { m with a := m.a * k % 4294967296 }
  else if c = 52 then (if k = 0 then { m with e := true, v := 0 } else { m with a := m.a / k }) else if c = 148 then (if k = 0 then { m with e := true, v := 0 } else { m with a := m.a % k })
  else if c = 68 then { m with a := bits .or .u32 m.a k } else if c = 84 then { m with a := bits .and .u32 m.a k } else if c = 164 then { m with a := bits .xor .u32 m.a k }
  else if c = 100 then { m with a := m.a * 2 ^ (k % 32).toNat % 4294967296 } else if c = 116 then { m with a := m.a / 2 ^ (k % 32).toNat } else if c = 132 then { m with a := -m.a % 4294967296 }
  else { m with pc := m.pc + (if tst c m.a k then i.jt else i.jf).toNat }
/-- One step. -/
def stp (i : Ins) (r : ByteArray) (m : Mc) : Mc :=
  if i.code = 0 then { m with pc := m.pc + 1, a := i.k } else if i.code = 1 then { m with pc := m.pc + 1, x := i.k } else if i.code = 32 then { m with pc := m.pc + 1, a := wd r i.k.toNat }
  else if i.code = 96 then { m with pc := m.pc + 1, a := m.c i.k.toNat } else if i.code = 97 then { m with pc := m.pc + 1, x := m.c i.k.toNat }
  else if i.code = 128 then { m with pc := m.pc + 1, a := 64 } else if i.code = 129 then { m with pc := m.pc + 1, x := 64 }
  else if i.code = 2 then { m with pc := m.pc + 1, c := putc m.c i.k.toNat m.a } else if i.code = 3 then { m with pc := m.pc + 1, c := putc m.c i.k.toNat m.x }
  else if i.code = 7 then { m with pc := m.pc + 1, x := m.a } else if i.code = 135 then { m with pc := m.pc + 1, a := m.x } else if i.code = 5 then { m with pc := m.pc + 1 + i.k.toNat }
  else if i.code = 6 then { m with pc := m.pc + 1, e := true, v := i.k } else if i.code = 22 then { m with pc := m.pc + 1, e := true, v := m.a }
  else alu (low i.code) (if xb i.code then m.x else i.k) i { m with pc := m.pc + 1 }
structure Mc.ok (m : Mc) : Prop where
  a : U32 m.a
  x : U32 m.x
  c : ∀ k, U32 (m.c k)

theorem quo_eq (a k : Int) (ha : U32 a) (hk : U32 k) : a.tdiv k % 4294967296 = a / k := by
  rw [Int.tdiv_eq_ediv_of_nonneg ha.1]
  have h0 : 0 ≤ a / k := Int.ediv_nonneg ha.1 hk.1
  have h1 : a / k ≤ a := Int.ediv_le_self _ ha.1
  exact Int.emod_eq_of_lt h0 (by have := ha.2; omega)
theorem rem_eq (a k : Int) (ha : U32 a) (hk : U32 k) (h0 : k ≠ 0) : (a - a.tdiv k % 4294967296 * k) % 4294967296 = a % k := by
  rw [quo_eq a k ha hk]
  have hp : 0 < k := by have := hk.1; omega
  have h1 : a - a / k * k = a % k := by rw [Int.emod_def, Int.mul_comm k]
  rw [h1]
  have h2 := Int.emod_nonneg a h0
  have h3 := Int.emod_lt_of_pos a hp
  exact Int.emod_eq_of_lt h2 (by have := hk.2; omega)
theorem sh_eq (k : Int) (hk : U32 k) : k.tmod 32 = k % 32 := Int.tmod_eq_emod_of_nonneg hk.1
theorem stepc_0 (w : World) (g : Nat) (m : Mc) (hb : MB w g m) (hm : m.ok) (i : Ins) (hi : i.ok) (hp : m.pc ≤ 9999) (r : ByteArray) (hr : r.size = 64) (left : Int) (hf : flt i left = 0) (h : i.code = 0) : StepTo w g i r (stp i r m) := by
  have := step_ak w g m hb i hi (by omega) r (by rw [h]; decide +kernel) (by rw [h]; decide +kernel)
  unfold stp
  simp only [h]
  exact this
theorem stepc_1 (w : World) (g : Nat) (m : Mc) (hb : MB w g m) (hm : m.ok) (i : Ins) (hi : i.ok) (hp : m.pc ≤ 9999) (r : ByteArray) (hr : r.size = 64) (left : Int) (hf : flt i left = 0) (h : i.code = 1) : StepTo w g i r (stp i r m) := by
  have := step_xk w g m hb i hi (by omega) r (by rw [h]; decide +kernel) (by rw [h]; decide +kernel)
  unfold stp
  simp only [h]
  exact this
theorem stepc_32 (w : World) (g : Nat) (m : Mc) (hb : MB w g m) (hm : m.ok) (i : Ins) (hi : i.ok) (hp : m.pc ≤ 9999) (r : ByteArray) (hr : r.size = 64) (left : Int) (hf : flt i left = 0) (h : i.code = 32) : StepTo w g i r (stp i r m) := by
  obtain ⟨kn, hkn⟩ := Int.eq_ofNat_of_zero_le hi.2.2.2.1
  have hk : knd i.code = 4 := by rw [h]; decide
  have hkk : i.k % 4 = 0 ∧ i.k < 64 := by
    unfold flt at hf
    rw [hk] at hf
    simp at hf
    omega
  have := step_aat w g m hb i hi (by omega) r (by rw [h]; decide +kernel) (by rw [h]; decide +kernel) kn hkn (by omega) (by omega)
  unfold stp
  simp only [h]
  rw [show i.k.toNat = kn by omega]
  exact this
theorem stepc_96 (w : World) (g : Nat) (m : Mc) (hb : MB w g m) (hm : m.ok) (i : Ins) (hi : i.ok) (hp : m.pc ≤ 9999) (r : ByteArray) (hr : r.size = 64) (left : Int) (hf : flt i left = 0) (h : i.code = 96) : StepTo w g i r (stp i r m) := by
  obtain ⟨kn, hkn⟩ := Int.eq_ofNat_of_zero_le hi.2.2.2.1
  have hk : knd i.code = 5 := by rw [h]; decide
  have hkk : i.k < 16 := by
    unfold flt at hf
    rw [hk] at hf
    simp at hf
    omega
  have := step_acell w g m hb i hi (by omega) r (by rw [h]; decide +kernel) (by rw [h]; decide +kernel) kn hkn (by omega)
  unfold stp
  simp only [h]
  rw [show i.k.toNat = kn by omega]
  exact this
theorem stepc_97 (w : World) (g : Nat) (m : Mc) (hb : MB w g m) (hm : m.ok) (i : Ins) (hi : i.ok) (hp : m.pc ≤ 9999) (r : ByteArray) (hr : r.size = 64) (left : Int) (hf : flt i left = 0) (h : i.code = 97) : StepTo w g i r (stp i r m) := by
  obtain ⟨kn, hkn⟩ := Int.eq_ofNat_of_zero_le hi.2.2.2.1
  have hk : knd i.code = 5 := by rw [h]; decide
  have hkk : i.k < 16 := by
    unfold flt at hf
    rw [hk] at hf
    simp at hf
    omega
  have := step_xcell w g m hb i hi (by omega) r (by rw [h]; decide +kernel) (by rw [h]; decide +kernel) kn hkn (by omega)
  unfold stp
  simp only [h]
  rw [show i.k.toNat = kn by omega]
  exact this
theorem stepc_128 (w : World) (g : Nat) (m : Mc) (hb : MB w g m) (hm : m.ok) (i : Ins) (hi : i.ok) (hp : m.pc ≤ 9999) (r : ByteArray) (hr : r.size = 64) (left : Int) (hf : flt i left = 0) (h : i.code = 128) : StepTo w g i r (stp i r m) := by
  have := step_a64 w g m hb i hi (by omega) r (by rw [h]; decide +kernel) (by rw [h]; decide +kernel)
  unfold stp
  simp only [h]
  exact this
theorem stepc_129 (w : World) (g : Nat) (m : Mc) (hb : MB w g m) (hm : m.ok) (i : Ins) (hi : i.ok) (hp : m.pc ≤ 9999) (r : ByteArray) (hr : r.size = 64) (left : Int) (hf : flt i left = 0) (h : i.code = 129) : StepTo w g i r (stp i r m) := by
  have := step_x64 w g m hb i hi (by omega) r (by rw [h]; decide +kernel) (by rw [h]; decide +kernel)
  unfold stp
  simp only [h]
  exact this
theorem stepc_2 (w : World) (g : Nat) (m : Mc) (hb : MB w g m) (hm : m.ok) (i : Ins) (hi : i.ok) (hp : m.pc ≤ 9999) (r : ByteArray) (hr : r.size = 64) (left : Int) (hf : flt i left = 0) (h : i.code = 2) : StepTo w g i r (stp i r m) := by
  obtain ⟨kn, hkn⟩ := Int.eq_ofNat_of_zero_le hi.2.2.2.1
  have hk : knd i.code = 6 := by rw [h]; decide
  have hkk : i.k < 16 := by
    unfold flt at hf
    rw [hk] at hf
    simp at hf
    omega
  have := step_cella w g m hb i hi (by omega) r (by rw [h]; decide +kernel) (by rw [h]; decide +kernel) kn hkn (by omega)
  unfold stp
  simp only [h]
  rw [show i.k.toNat = kn by omega]
  exact this
theorem stepc_3 (w : World) (g : Nat) (m : Mc) (hb : MB w g m) (hm : m.ok) (i : Ins) (hi : i.ok) (hp : m.pc ≤ 9999) (r : ByteArray) (hr : r.size = 64) (left : Int) (hf : flt i left = 0) (h : i.code = 3) : StepTo w g i r (stp i r m) := by
  obtain ⟨kn, hkn⟩ := Int.eq_ofNat_of_zero_le hi.2.2.2.1
  have hk : knd i.code = 6 := by rw [h]; decide
  have hkk : i.k < 16 := by
    unfold flt at hf
    rw [hk] at hf
    simp at hf
    omega
  have := step_cellx w g m hb i hi (by omega) r (by rw [h]; decide +kernel) (by rw [h]; decide +kernel) kn hkn (by omega)
  unfold stp
  simp only [h]
  rw [show i.k.toNat = kn by omega]
  exact this
theorem stepc_7 (w : World) (g : Nat) (m : Mc) (hb : MB w g m) (hm : m.ok) (i : Ins) (hi : i.ok) (hp : m.pc ≤ 9999) (r : ByteArray) (hr : r.size = 64) (left : Int) (hf : flt i left = 0) (h : i.code = 7) : StepTo w g i r (stp i r m) := by
  have := step_xa w g m hb i hi (by omega) r (by rw [h]; decide +kernel) (by rw [h]; decide +kernel)
  unfold stp
  simp only [h]
  exact this
theorem stepc_135 (w : World) (g : Nat) (m : Mc) (hb : MB w g m) (hm : m.ok) (i : Ins) (hi : i.ok) (hp : m.pc ≤ 9999) (r : ByteArray) (hr : r.size = 64) (left : Int) (hf : flt i left = 0) (h : i.code = 135) : StepTo w g i r (stp i r m) := by
  have := step_ax w g m hb i hi (by omega) r (by rw [h]; decide +kernel) (by rw [h]; decide +kernel)
  unfold stp
  simp only [h]
  exact this
theorem stepc_5 (w : World) (g : Nat) (m : Mc) (hb : MB w g m) (hm : m.ok) (i : Ins) (hi : i.ok) (hp : m.pc ≤ 9999) (r : ByteArray) (hr : r.size = 64) (left : Int) (hf : flt i left = 0) (h : i.code = 5) : StepTo w g i r (stp i r m) := by
  have := step_jump w g m hb i hi (by omega) r (by rw [h]; decide +kernel) (by rw [h]; decide +kernel)
  unfold stp
  simp only [h]
  exact this
theorem stepc_6 (w : World) (g : Nat) (m : Mc) (hb : MB w g m) (hm : m.ok) (i : Ins) (hi : i.ok) (hp : m.pc ≤ 9999) (r : ByteArray) (hr : r.size = 64) (left : Int) (hf : flt i left = 0) (h : i.code = 6) : StepTo w g i r (stp i r m) := by
  have := step_retk w g m hb i hi (by omega) r (by rw [h]; decide +kernel) (by rw [h]; decide +kernel)
  unfold stp
  simp only [h]
  exact this
theorem stepc_22 (w : World) (g : Nat) (m : Mc) (hb : MB w g m) (hm : m.ok) (i : Ins) (hi : i.ok) (hp : m.pc ≤ 9999) (r : ByteArray) (hr : r.size = 64) (left : Int) (hf : flt i left = 0) (h : i.code = 22) : StepTo w g i r (stp i r m) := by
  have := step_reta w g m hb i hi (by omega) r (by rw [h]; decide +kernel) (by rw [h]; decide +kernel)
  unfold stp
  simp only [h]
  exact this
theorem stepc_4 (w : World) (g : Nat) (m : Mc) (hb : MB w g m) (hm : m.ok) (i : Ins) (hi : i.ok) (hp : m.pc ≤ 9999) (r : ByteArray) (hr : r.size = 64) (left : Int) (hf : flt i left = 0) (h : i.code = 4) : StepTo w g i r (stp i r m) := by
  have hk : U32 i.k := hi.2.2.2
  have hl : low i.code = 4 := by rw [h]; decide
  have hx : xb i.code = false := by rw [h]; decide
  have e : stp i r m = alu 4 i.k i { m with pc := m.pc + 1 } := by
    unfold stp
    rw [hl, hx]
    simp only [h]
    rfl
  rw [e]
  exact step_reckon_false w g m hb i hi (by omega) r (by rw [h]; decide +kernel) (by rw [h]; decide +kernel) _ (fun w1 h1 => reckon_add w1 g _ h1 _ (by rw [h]; decide +kernel) i.k i)
theorem stepc_12 (w : World) (g : Nat) (m : Mc) (hb : MB w g m) (hm : m.ok) (i : Ins) (hi : i.ok) (hp : m.pc ≤ 9999) (r : ByteArray) (hr : r.size = 64) (left : Int) (hf : flt i left = 0) (h : i.code = 12) : StepTo w g i r (stp i r m) := by
  have hk : U32 m.x := hm.x
  have hl : low i.code = 4 := by rw [h]; decide
  have hx : xb i.code = true := by rw [h]; decide
  have e : stp i r m = alu 4 m.x i { m with pc := m.pc + 1 } := by
    unfold stp
    rw [hl, hx]
    simp only [h]
    rfl
  rw [e]
  exact step_reckon_true w g m hb i hi (by omega) r (by rw [h]; decide +kernel) (by rw [h]; decide +kernel) _ (fun w1 h1 => reckon_add w1 g _ h1 _ (by rw [h]; decide +kernel) m.x i)
theorem stepc_20 (w : World) (g : Nat) (m : Mc) (hb : MB w g m) (hm : m.ok) (i : Ins) (hi : i.ok) (hp : m.pc ≤ 9999) (r : ByteArray) (hr : r.size = 64) (left : Int) (hf : flt i left = 0) (h : i.code = 20) : StepTo w g i r (stp i r m) := by
  have hk : U32 i.k := hi.2.2.2
  have hl : low i.code = 20 := by rw [h]; decide
  have hx : xb i.code = false := by rw [h]; decide
  have e : stp i r m = alu 20 i.k i { m with pc := m.pc + 1 } := by
    unfold stp
    rw [hl, hx]
    simp only [h]
    rfl
  rw [e]
  exact step_reckon_false w g m hb i hi (by omega) r (by rw [h]; decide +kernel) (by rw [h]; decide +kernel) _ (fun w1 h1 => reckon_sub w1 g _ h1 _ (by rw [h]; decide +kernel) i.k i)
theorem stepc_28 (w : World) (g : Nat) (m : Mc) (hb : MB w g m) (hm : m.ok) (i : Ins) (hi : i.ok) (hp : m.pc ≤ 9999) (r : ByteArray) (hr : r.size = 64) (left : Int) (hf : flt i left = 0) (h : i.code = 28) : StepTo w g i r (stp i r m) := by
  have hk : U32 m.x := hm.x
  have hl : low i.code = 20 := by rw [h]; decide
  have hx : xb i.code = true := by rw [h]; decide
  have e : stp i r m = alu 20 m.x i { m with pc := m.pc + 1 } := by
    unfold stp
    rw [hl, hx]
    simp only [h]
    rfl
  rw [e]
  exact step_reckon_true w g m hb i hi (by omega) r (by rw [h]; decide +kernel) (by rw [h]; decide +kernel) _ (fun w1 h1 => reckon_sub w1 g _ h1 _ (by rw [h]; decide +kernel) m.x i)
theorem stepc_36 (w : World) (g : Nat) (m : Mc) (hb : MB w g m) (hm : m.ok) (i : Ins) (hi : i.ok) (hp : m.pc ≤ 9999) (r : ByteArray) (hr : r.size = 64) (left : Int) (hf : flt i left = 0) (h : i.code = 36) : StepTo w g i r (stp i r m) := by
  have hk : U32 i.k := hi.2.2.2
  have hl : low i.code = 36 := by rw [h]; decide
  have hx : xb i.code = false := by rw [h]; decide
  have e : stp i r m = alu 36 i.k i { m with pc := m.pc + 1 } := by
    unfold stp
    rw [hl, hx]
    simp only [h]
    rfl
  rw [e]
  exact step_reckon_false w g m hb i hi (by omega) r (by rw [h]; decide +kernel) (by rw [h]; decide +kernel) _ (fun w1 h1 => reckon_mul w1 g _ h1 _ (by rw [h]; decide +kernel) i.k i)
theorem stepc_44 (w : World) (g : Nat) (m : Mc) (hb : MB w g m) (hm : m.ok) (i : Ins) (hi : i.ok) (hp : m.pc ≤ 9999) (r : ByteArray) (hr : r.size = 64) (left : Int) (hf : flt i left = 0) (h : i.code = 44) : StepTo w g i r (stp i r m) := by
  have hk : U32 m.x := hm.x
  have hl : low i.code = 36 := by rw [h]; decide
  have hx : xb i.code = true := by rw [h]; decide
  have e : stp i r m = alu 36 m.x i { m with pc := m.pc + 1 } := by
    unfold stp
    rw [hl, hx]
    simp only [h]
    rfl
  rw [e]
  exact step_reckon_true w g m hb i hi (by omega) r (by rw [h]; decide +kernel) (by rw [h]; decide +kernel) _ (fun w1 h1 => reckon_mul w1 g _ h1 _ (by rw [h]; decide +kernel) m.x i)
theorem stepc_52 (w : World) (g : Nat) (m : Mc) (hb : MB w g m) (hm : m.ok) (i : Ins) (hi : i.ok) (hp : m.pc ≤ 9999) (r : ByteArray) (hr : r.size = 64) (left : Int) (hf : flt i left = 0) (h : i.code = 52) : StepTo w g i r (stp i r m) := by
  have hk : U32 i.k := hi.2.2.2
  have hl : low i.code = 52 := by rw [h]; decide
  have hx : xb i.code = false := by rw [h]; decide
  have e : stp i r m = alu 52 i.k i { m with pc := m.pc + 1 } := by
    unfold stp
    rw [hl, hx]
    simp only [h]
    rfl
  rw [e]
  by_cases hk0 : i.k = 0
  · have e2 : alu 52 i.k i { m with pc := m.pc + 1 } = { m with pc := m.pc + 1, e := true, v := 0 } := by simp [alu, hk0]
    rw [e2]
    exact step_reckon_false w g m hb i hi (by omega) r (by rw [h]; decide +kernel) (by rw [h]; decide +kernel) _ (fun w1 h1 => reckon_quo0 w1 g _ h1 _ (by rw [h]; decide +kernel) _ i hk0)
  · have e2 : alu 52 i.k i { m with pc := m.pc + 1 } = { m with pc := m.pc + 1, a := m.a.tdiv i.k % 4294967296 } := by
      rw [quo_eq _ _ hm.a hk]
      simp [alu, hk0]
    rw [e2]
    exact step_reckon_false w g m hb i hi (by omega) r (by rw [h]; decide +kernel) (by rw [h]; decide +kernel) _ (fun w1 h1 => reckon_quo w1 g _ h1 _ (by rw [h]; decide +kernel) i.k i hk0)
theorem stepc_60 (w : World) (g : Nat) (m : Mc) (hb : MB w g m) (hm : m.ok) (i : Ins) (hi : i.ok) (hp : m.pc ≤ 9999) (r : ByteArray) (hr : r.size = 64) (left : Int) (hf : flt i left = 0) (h : i.code = 60) : StepTo w g i r (stp i r m) := by
  have hk : U32 m.x := hm.x
  have hl : low i.code = 52 := by rw [h]; decide
  have hx : xb i.code = true := by rw [h]; decide
  have e : stp i r m = alu 52 m.x i { m with pc := m.pc + 1 } := by
    unfold stp
    rw [hl, hx]
    simp only [h]
    rfl
  rw [e]
  by_cases hk0 : m.x = 0
  · have e2 : alu 52 m.x i { m with pc := m.pc + 1 } = { m with pc := m.pc + 1, e := true, v := 0 } := by simp [alu, hk0]
    rw [e2]
    exact step_reckon_true w g m hb i hi (by omega) r (by rw [h]; decide +kernel) (by rw [h]; decide +kernel) _ (fun w1 h1 => reckon_quo0 w1 g _ h1 _ (by rw [h]; decide +kernel) _ i hk0)
  · have e2 : alu 52 m.x i { m with pc := m.pc + 1 } = { m with pc := m.pc + 1, a := m.a.tdiv m.x % 4294967296 } := by
      rw [quo_eq _ _ hm.a hk]
      simp [alu, hk0]
    rw [e2]
    exact step_reckon_true w g m hb i hi (by omega) r (by rw [h]; decide +kernel) (by rw [h]; decide +kernel) _ (fun w1 h1 => reckon_quo w1 g _ h1 _ (by rw [h]; decide +kernel) m.x i hk0)
theorem stepc_68 (w : World) (g : Nat) (m : Mc) (hb : MB w g m) (hm : m.ok) (i : Ins) (hi : i.ok) (hp : m.pc ≤ 9999) (r : ByteArray) (hr : r.size = 64) (left : Int) (hf : flt i left = 0) (h : i.code = 68) : StepTo w g i r (stp i r m) := by
  have hk : U32 i.k := hi.2.2.2
  have hl : low i.code = 68 := by rw [h]; decide
  have hx : xb i.code = false := by rw [h]; decide
  have e : stp i r m = alu 68 i.k i { m with pc := m.pc + 1 } := by
    unfold stp
    rw [hl, hx]
    simp only [h]
    rfl
  rw [e]
  exact step_reckon_false w g m hb i hi (by omega) r (by rw [h]; decide +kernel) (by rw [h]; decide +kernel) _ (fun w1 h1 => reckon_or w1 g _ h1 _ (by rw [h]; decide +kernel) i.k i)
theorem stepc_76 (w : World) (g : Nat) (m : Mc) (hb : MB w g m) (hm : m.ok) (i : Ins) (hi : i.ok) (hp : m.pc ≤ 9999) (r : ByteArray) (hr : r.size = 64) (left : Int) (hf : flt i left = 0) (h : i.code = 76) : StepTo w g i r (stp i r m) := by
  have hk : U32 m.x := hm.x
  have hl : low i.code = 68 := by rw [h]; decide
  have hx : xb i.code = true := by rw [h]; decide
  have e : stp i r m = alu 68 m.x i { m with pc := m.pc + 1 } := by
    unfold stp
    rw [hl, hx]
    simp only [h]
    rfl
  rw [e]
  exact step_reckon_true w g m hb i hi (by omega) r (by rw [h]; decide +kernel) (by rw [h]; decide +kernel) _ (fun w1 h1 => reckon_or w1 g _ h1 _ (by rw [h]; decide +kernel) m.x i)
theorem stepc_84 (w : World) (g : Nat) (m : Mc) (hb : MB w g m) (hm : m.ok) (i : Ins) (hi : i.ok) (hp : m.pc ≤ 9999) (r : ByteArray) (hr : r.size = 64) (left : Int) (hf : flt i left = 0) (h : i.code = 84) : StepTo w g i r (stp i r m) := by
  have hk : U32 i.k := hi.2.2.2
  have hl : low i.code = 84 := by rw [h]; decide
  have hx : xb i.code = false := by rw [h]; decide
  have e : stp i r m = alu 84 i.k i { m with pc := m.pc + 1 } := by
    unfold stp
    rw [hl, hx]
    simp only [h]
    rfl
  rw [e]
  exact step_reckon_false w g m hb i hi (by omega) r (by rw [h]; decide +kernel) (by rw [h]; decide +kernel) _ (fun w1 h1 => reckon_and w1 g _ h1 _ (by rw [h]; decide +kernel) i.k i)
theorem stepc_92 (w : World) (g : Nat) (m : Mc) (hb : MB w g m) (hm : m.ok) (i : Ins) (hi : i.ok) (hp : m.pc ≤ 9999) (r : ByteArray) (hr : r.size = 64) (left : Int) (hf : flt i left = 0) (h : i.code = 92) : StepTo w g i r (stp i r m) := by
  have hk : U32 m.x := hm.x
  have hl : low i.code = 84 := by rw [h]; decide
  have hx : xb i.code = true := by rw [h]; decide
  have e : stp i r m = alu 84 m.x i { m with pc := m.pc + 1 } := by
    unfold stp
    rw [hl, hx]
    simp only [h]
    rfl
  rw [e]
  exact step_reckon_true w g m hb i hi (by omega) r (by rw [h]; decide +kernel) (by rw [h]; decide +kernel) _ (fun w1 h1 => reckon_and w1 g _ h1 _ (by rw [h]; decide +kernel) m.x i)
theorem stepc_100 (w : World) (g : Nat) (m : Mc) (hb : MB w g m) (hm : m.ok) (i : Ins) (hi : i.ok) (hp : m.pc ≤ 9999) (r : ByteArray) (hr : r.size = 64) (left : Int) (hf : flt i left = 0) (h : i.code = 100) : StepTo w g i r (stp i r m) := by
  have hk : U32 i.k := hi.2.2.2
  have hl : low i.code = 100 := by rw [h]; decide
  have hx : xb i.code = false := by rw [h]; decide
  have e : stp i r m = alu 100 i.k i { m with pc := m.pc + 1 } := by
    unfold stp
    rw [hl, hx]
    simp only [h]
    rfl
  rw [e]
  exact step_reckon_false w g m hb i hi (by omega) r (by rw [h]; decide +kernel) (by rw [h]; decide +kernel) _ (fun w1 h1 => reckon_shl w1 g _ h1 _ (by rw [h]; decide +kernel) i.k i (i.k % 32) (sh_eq _ hk) (by omega) (by omega))
theorem stepc_108 (w : World) (g : Nat) (m : Mc) (hb : MB w g m) (hm : m.ok) (i : Ins) (hi : i.ok) (hp : m.pc ≤ 9999) (r : ByteArray) (hr : r.size = 64) (left : Int) (hf : flt i left = 0) (h : i.code = 108) : StepTo w g i r (stp i r m) := by
  have hk : U32 m.x := hm.x
  have hl : low i.code = 100 := by rw [h]; decide
  have hx : xb i.code = true := by rw [h]; decide
  have e : stp i r m = alu 100 m.x i { m with pc := m.pc + 1 } := by
    unfold stp
    rw [hl, hx]
    simp only [h]
    rfl
  rw [e]
  exact step_reckon_true w g m hb i hi (by omega) r (by rw [h]; decide +kernel) (by rw [h]; decide +kernel) _ (fun w1 h1 => reckon_shl w1 g _ h1 _ (by rw [h]; decide +kernel) m.x i (m.x % 32) (sh_eq _ hk) (by omega) (by omega))
theorem stepc_116 (w : World) (g : Nat) (m : Mc) (hb : MB w g m) (hm : m.ok) (i : Ins) (hi : i.ok) (hp : m.pc ≤ 9999) (r : ByteArray) (hr : r.size = 64) (left : Int) (hf : flt i left = 0) (h : i.code = 116) : StepTo w g i r (stp i r m) := by
  have hk : U32 i.k := hi.2.2.2
  have hl : low i.code = 116 := by rw [h]; decide
  have hx : xb i.code = false := by rw [h]; decide
  have e : stp i r m = alu 116 i.k i { m with pc := m.pc + 1 } := by
    unfold stp
    rw [hl, hx]
    simp only [h]
    rfl
  rw [e]
  exact step_reckon_false w g m hb i hi (by omega) r (by rw [h]; decide +kernel) (by rw [h]; decide +kernel) _ (fun w1 h1 => reckon_shr w1 g _ h1 _ (by rw [h]; decide +kernel) i.k i (i.k % 32) (sh_eq _ hk) (by omega) (by omega))
theorem stepc_124 (w : World) (g : Nat) (m : Mc) (hb : MB w g m) (hm : m.ok) (i : Ins) (hi : i.ok) (hp : m.pc ≤ 9999) (r : ByteArray) (hr : r.size = 64) (left : Int) (hf : flt i left = 0) (h : i.code = 124) : StepTo w g i r (stp i r m) := by
  have hk : U32 m.x := hm.x
  have hl : low i.code = 116 := by rw [h]; decide
  have hx : xb i.code = true := by rw [h]; decide
  have e : stp i r m = alu 116 m.x i { m with pc := m.pc + 1 } := by
    unfold stp
    rw [hl, hx]
    simp only [h]
    rfl
  rw [e]
  exact step_reckon_true w g m hb i hi (by omega) r (by rw [h]; decide +kernel) (by rw [h]; decide +kernel) _ (fun w1 h1 => reckon_shr w1 g _ h1 _ (by rw [h]; decide +kernel) m.x i (m.x % 32) (sh_eq _ hk) (by omega) (by omega))
theorem stepc_148 (w : World) (g : Nat) (m : Mc) (hb : MB w g m) (hm : m.ok) (i : Ins) (hi : i.ok) (hp : m.pc ≤ 9999) (r : ByteArray) (hr : r.size = 64) (left : Int) (hf : flt i left = 0) (h : i.code = 148) : StepTo w g i r (stp i r m) := by
  have hk : U32 i.k := hi.2.2.2
  have hl : low i.code = 148 := by rw [h]; decide
  have hx : xb i.code = false := by rw [h]; decide
  have e : stp i r m = alu 148 i.k i { m with pc := m.pc + 1 } := by
    unfold stp
    rw [hl, hx]
    simp only [h]
    rfl
  rw [e]
  by_cases hk0 : i.k = 0
  · have e2 : alu 148 i.k i { m with pc := m.pc + 1 } = { m with pc := m.pc + 1, e := true, v := 0 } := by simp [alu, hk0]
    rw [e2]
    exact step_reckon_false w g m hb i hi (by omega) r (by rw [h]; decide +kernel) (by rw [h]; decide +kernel) _ (fun w1 h1 => reckon_rem0 w1 g _ h1 _ (by rw [h]; decide +kernel) _ i hk0)
  · have e2 : alu 148 i.k i { m with pc := m.pc + 1 } = { m with pc := m.pc + 1, a := (m.a - m.a.tdiv i.k % 4294967296 * i.k) % 4294967296 } := by
      rw [rem_eq _ _ hm.a hk hk0]
      simp [alu, hk0]
    rw [e2]
    exact step_reckon_false w g m hb i hi (by omega) r (by rw [h]; decide +kernel) (by rw [h]; decide +kernel) _ (fun w1 h1 => reckon_rem w1 g _ h1 _ (by rw [h]; decide +kernel) i.k i hk0)
theorem stepc_156 (w : World) (g : Nat) (m : Mc) (hb : MB w g m) (hm : m.ok) (i : Ins) (hi : i.ok) (hp : m.pc ≤ 9999) (r : ByteArray) (hr : r.size = 64) (left : Int) (hf : flt i left = 0) (h : i.code = 156) : StepTo w g i r (stp i r m) := by
  have hk : U32 m.x := hm.x
  have hl : low i.code = 148 := by rw [h]; decide
  have hx : xb i.code = true := by rw [h]; decide
  have e : stp i r m = alu 148 m.x i { m with pc := m.pc + 1 } := by
    unfold stp
    rw [hl, hx]
    simp only [h]
    rfl
  rw [e]
  by_cases hk0 : m.x = 0
  · have e2 : alu 148 m.x i { m with pc := m.pc + 1 } = { m with pc := m.pc + 1, e := true, v := 0 } := by simp [alu, hk0]
    rw [e2]
    exact step_reckon_true w g m hb i hi (by omega) r (by rw [h]; decide +kernel) (by rw [h]; decide +kernel) _ (fun w1 h1 => reckon_rem0 w1 g _ h1 _ (by rw [h]; decide +kernel) _ i hk0)
  · have e2 : alu 148 m.x i { m with pc := m.pc + 1 } = { m with pc := m.pc + 1, a := (m.a - m.a.tdiv m.x % 4294967296 * m.x) % 4294967296 } := by
      rw [rem_eq _ _ hm.a hk hk0]
      simp [alu, hk0]
    rw [e2]
    exact step_reckon_true w g m hb i hi (by omega) r (by rw [h]; decide +kernel) (by rw [h]; decide +kernel) _ (fun w1 h1 => reckon_rem w1 g _ h1 _ (by rw [h]; decide +kernel) m.x i hk0)
theorem stepc_164 (w : World) (g : Nat) (m : Mc) (hb : MB w g m) (hm : m.ok) (i : Ins) (hi : i.ok) (hp : m.pc ≤ 9999) (r : ByteArray) (hr : r.size = 64) (left : Int) (hf : flt i left = 0) (h : i.code = 164) : StepTo w g i r (stp i r m) := by
  have hk : U32 i.k := hi.2.2.2
  have hl : low i.code = 164 := by rw [h]; decide
  have hx : xb i.code = false := by rw [h]; decide
  have e : stp i r m = alu 164 i.k i { m with pc := m.pc + 1 } := by
    unfold stp
    rw [hl, hx]
    simp only [h]
    rfl
  rw [e]
  exact step_reckon_false w g m hb i hi (by omega) r (by rw [h]; decide +kernel) (by rw [h]; decide +kernel) _ (fun w1 h1 => reckon_xor w1 g _ h1 _ (by rw [h]; decide +kernel) i.k i)
theorem stepc_172 (w : World) (g : Nat) (m : Mc) (hb : MB w g m) (hm : m.ok) (i : Ins) (hi : i.ok) (hp : m.pc ≤ 9999) (r : ByteArray) (hr : r.size = 64) (left : Int) (hf : flt i left = 0) (h : i.code = 172) : StepTo w g i r (stp i r m) := by
  have hk : U32 m.x := hm.x
  have hl : low i.code = 164 := by rw [h]; decide
  have hx : xb i.code = true := by rw [h]; decide
  have e : stp i r m = alu 164 m.x i { m with pc := m.pc + 1 } := by
    unfold stp
    rw [hl, hx]
    simp only [h]
    rfl
  rw [e]
  exact step_reckon_true w g m hb i hi (by omega) r (by rw [h]; decide +kernel) (by rw [h]; decide +kernel) _ (fun w1 h1 => reckon_xor w1 g _ h1 _ (by rw [h]; decide +kernel) m.x i)
theorem stepc_21 (w : World) (g : Nat) (m : Mc) (hb : MB w g m) (hm : m.ok) (i : Ins) (hi : i.ok) (hp : m.pc ≤ 9999) (r : ByteArray) (hr : r.size = 64) (left : Int) (hf : flt i left = 0) (h : i.code = 21) : StepTo w g i r (stp i r m) := by
  have hk : U32 i.k := hi.2.2.2
  have hl : low i.code = 21 := by rw [h]; decide
  have hx : xb i.code = false := by rw [h]; decide
  have e : stp i r m = alu 21 i.k i { m with pc := m.pc + 1 } := by
    unfold stp
    rw [hl, hx]
    simp only [h]
    rfl
  rw [e]
  exact step_reckon_false w g m hb i hi (by omega) r (by rw [h]; decide +kernel) (by rw [h]; decide +kernel) _ (fun w1 h1 => reckon_ifeq w1 g _ h1 _ (by rw [h]; decide +kernel) i.k i hi (by show m.pc + 1 ≤ _; omega) _ rfl)
theorem stepc_29 (w : World) (g : Nat) (m : Mc) (hb : MB w g m) (hm : m.ok) (i : Ins) (hi : i.ok) (hp : m.pc ≤ 9999) (r : ByteArray) (hr : r.size = 64) (left : Int) (hf : flt i left = 0) (h : i.code = 29) : StepTo w g i r (stp i r m) := by
  have hk : U32 m.x := hm.x
  have hl : low i.code = 21 := by rw [h]; decide
  have hx : xb i.code = true := by rw [h]; decide
  have e : stp i r m = alu 21 m.x i { m with pc := m.pc + 1 } := by
    unfold stp
    rw [hl, hx]
    simp only [h]
    rfl
  rw [e]
  exact step_reckon_true w g m hb i hi (by omega) r (by rw [h]; decide +kernel) (by rw [h]; decide +kernel) _ (fun w1 h1 => reckon_ifeq w1 g _ h1 _ (by rw [h]; decide +kernel) m.x i hi (by show m.pc + 1 ≤ _; omega) _ rfl)
theorem stepc_37 (w : World) (g : Nat) (m : Mc) (hb : MB w g m) (hm : m.ok) (i : Ins) (hi : i.ok) (hp : m.pc ≤ 9999) (r : ByteArray) (hr : r.size = 64) (left : Int) (hf : flt i left = 0) (h : i.code = 37) : StepTo w g i r (stp i r m) := by
  have hk : U32 i.k := hi.2.2.2
  have hl : low i.code = 37 := by rw [h]; decide
  have hx : xb i.code = false := by rw [h]; decide
  have e : stp i r m = alu 37 i.k i { m with pc := m.pc + 1 } := by
    unfold stp
    rw [hl, hx]
    simp only [h]
    rfl
  rw [e]
  exact step_reckon_false w g m hb i hi (by omega) r (by rw [h]; decide +kernel) (by rw [h]; decide +kernel) _ (fun w1 h1 => reckon_ifgt w1 g _ h1 _ (by rw [h]; decide +kernel) i.k i hi (by show m.pc + 1 ≤ _; omega) _ rfl)
theorem stepc_45 (w : World) (g : Nat) (m : Mc) (hb : MB w g m) (hm : m.ok) (i : Ins) (hi : i.ok) (hp : m.pc ≤ 9999) (r : ByteArray) (hr : r.size = 64) (left : Int) (hf : flt i left = 0) (h : i.code = 45) : StepTo w g i r (stp i r m) := by
  have hk : U32 m.x := hm.x
  have hl : low i.code = 37 := by rw [h]; decide
  have hx : xb i.code = true := by rw [h]; decide
  have e : stp i r m = alu 37 m.x i { m with pc := m.pc + 1 } := by
    unfold stp
    rw [hl, hx]
    simp only [h]
    rfl
  rw [e]
  exact step_reckon_true w g m hb i hi (by omega) r (by rw [h]; decide +kernel) (by rw [h]; decide +kernel) _ (fun w1 h1 => reckon_ifgt w1 g _ h1 _ (by rw [h]; decide +kernel) m.x i hi (by show m.pc + 1 ≤ _; omega) _ rfl)
theorem stepc_53 (w : World) (g : Nat) (m : Mc) (hb : MB w g m) (hm : m.ok) (i : Ins) (hi : i.ok) (hp : m.pc ≤ 9999) (r : ByteArray) (hr : r.size = 64) (left : Int) (hf : flt i left = 0) (h : i.code = 53) : StepTo w g i r (stp i r m) := by
  have hk : U32 i.k := hi.2.2.2
  have hl : low i.code = 53 := by rw [h]; decide
  have hx : xb i.code = false := by rw [h]; decide
  have e : stp i r m = alu 53 i.k i { m with pc := m.pc + 1 } := by
    unfold stp
    rw [hl, hx]
    simp only [h]
    rfl
  rw [e]
  exact step_reckon_false w g m hb i hi (by omega) r (by rw [h]; decide +kernel) (by rw [h]; decide +kernel) _ (fun w1 h1 => reckon_ifge w1 g _ h1 _ (by rw [h]; decide +kernel) i.k i hi (by show m.pc + 1 ≤ _; omega) _ rfl)
theorem stepc_61 (w : World) (g : Nat) (m : Mc) (hb : MB w g m) (hm : m.ok) (i : Ins) (hi : i.ok) (hp : m.pc ≤ 9999) (r : ByteArray) (hr : r.size = 64) (left : Int) (hf : flt i left = 0) (h : i.code = 61) : StepTo w g i r (stp i r m) := by
  have hk : U32 m.x := hm.x
  have hl : low i.code = 53 := by rw [h]; decide
  have hx : xb i.code = true := by rw [h]; decide
  have e : stp i r m = alu 53 m.x i { m with pc := m.pc + 1 } := by
    unfold stp
    rw [hl, hx]
    simp only [h]
    rfl
  rw [e]
  exact step_reckon_true w g m hb i hi (by omega) r (by rw [h]; decide +kernel) (by rw [h]; decide +kernel) _ (fun w1 h1 => reckon_ifge w1 g _ h1 _ (by rw [h]; decide +kernel) m.x i hi (by show m.pc + 1 ≤ _; omega) _ rfl)
theorem stepc_69 (w : World) (g : Nat) (m : Mc) (hb : MB w g m) (hm : m.ok) (i : Ins) (hi : i.ok) (hp : m.pc ≤ 9999) (r : ByteArray) (hr : r.size = 64) (left : Int) (hf : flt i left = 0) (h : i.code = 69) : StepTo w g i r (stp i r m) := by
  have hk : U32 i.k := hi.2.2.2
  have hl : low i.code = 69 := by rw [h]; decide
  have hx : xb i.code = false := by rw [h]; decide
  have e : stp i r m = alu 69 i.k i { m with pc := m.pc + 1 } := by
    unfold stp
    rw [hl, hx]
    simp only [h]
    rfl
  rw [e]
  exact step_reckon_false w g m hb i hi (by omega) r (by rw [h]; decide +kernel) (by rw [h]; decide +kernel) _ (fun w1 h1 => reckon_ifbit w1 g _ h1 _ (by rw [h]; decide +kernel) i.k i hi (by show m.pc + 1 ≤ _; omega) (!(bits .and .u32 m.a i.k == 0)) (by simp))
theorem stepc_77 (w : World) (g : Nat) (m : Mc) (hb : MB w g m) (hm : m.ok) (i : Ins) (hi : i.ok) (hp : m.pc ≤ 9999) (r : ByteArray) (hr : r.size = 64) (left : Int) (hf : flt i left = 0) (h : i.code = 77) : StepTo w g i r (stp i r m) := by
  have hk : U32 m.x := hm.x
  have hl : low i.code = 69 := by rw [h]; decide
  have hx : xb i.code = true := by rw [h]; decide
  have e : stp i r m = alu 69 m.x i { m with pc := m.pc + 1 } := by
    unfold stp
    rw [hl, hx]
    simp only [h]
    rfl
  rw [e]
  exact step_reckon_true w g m hb i hi (by omega) r (by rw [h]; decide +kernel) (by rw [h]; decide +kernel) _ (fun w1 h1 => reckon_ifbit w1 g _ h1 _ (by rw [h]; decide +kernel) m.x i hi (by show m.pc + 1 ≤ _; omega) (!(bits .and .u32 m.a m.x == 0)) (by simp))
theorem stepc_132 (w : World) (g : Nat) (m : Mc) (hb : MB w g m) (hm : m.ok) (i : Ins) (hi : i.ok) (hp : m.pc ≤ 9999) (r : ByteArray) (hr : r.size = 64) (left : Int) (hf : flt i left = 0) (h : i.code = 132) : StepTo w g i r (stp i r m) := by
  have hk : U32 i.k := hi.2.2.2
  have hl : low i.code = 132 := by rw [h]; decide
  have hx : xb i.code = false := by rw [h]; decide
  have e : stp i r m = alu 132 i.k i { m with pc := m.pc + 1 } := by
    unfold stp
    rw [hl, hx]
    simp only [h]
    rfl
  rw [e]
  exact step_reckon_false w g m hb i hi (by omega) r (by rw [h]; decide +kernel) (by rw [h]; decide +kernel) _ (fun w1 h1 => reckon_neg w1 g _ h1 _ (by rw [h]; decide +kernel) i.k i)
theorem known_of {i : Ins} {left : Int} (hf : flt i left = 0) : i.code ∈ allCodes := by
  by_cases h : i.code ∈ allCodes
  · exact h
  · unfold flt at hf
    rw [knd_other _ h] at hf
    simp at hf
theorem step_any (w : World) (g : Nat) (m : Mc) (hb : MB w g m) (hm : m.ok) (i : Ins) (hi : i.ok) (hp : m.pc ≤ 9999) (r : ByteArray) (hr : r.size = 64) (left : Int) (hf : flt i left = 0) : StepTo w g i r (stp i r m) := by
  have h := known_of hf
  simp only [allCodes, plainCodes, testCodes, List.cons_append, List.nil_append, List.mem_cons, List.not_mem_nil, or_false] at h
  rcases h with h | h | h | h | h | h | h | h | h | h | h | h | h | h | h | h | h | h | h | h | h | h | h | h | h | h | h | h | h | h | h | h | h | h | h | h | h | h | h | h | h | h | h
  · exact stepc_0 w g m hb hm i hi hp r hr left hf h
  · exact stepc_1 w g m hb hm i hi hp r hr left hf h
  · exact stepc_128 w g m hb hm i hi hp r hr left hf h
  · exact stepc_129 w g m hb hm i hi hp r hr left hf h
  · exact stepc_7 w g m hb hm i hi hp r hr left hf h
  · exact stepc_135 w g m hb hm i hi hp r hr left hf h
  · exact stepc_132 w g m hb hm i hi hp r hr left hf h
  · exact stepc_4 w g m hb hm i hi hp r hr left hf h
  · exact stepc_20 w g m hb hm i hi hp r hr left hf h
  · exact stepc_36 w g m hb hm i hi hp r hr left hf h
  · exact stepc_68 w g m hb hm i hi hp r hr left hf h
  · exact stepc_84 w g m hb hm i hi hp r hr left hf h
  · exact stepc_164 w g m hb hm i hi hp r hr left hf h
  · exact stepc_12 w g m hb hm i hi hp r hr left hf h
  · exact stepc_28 w g m hb hm i hi hp r hr left hf h
  · exact stepc_44 w g m hb hm i hi hp r hr left hf h
  · exact stepc_60 w g m hb hm i hi hp r hr left hf h
  · exact stepc_156 w g m hb hm i hi hp r hr left hf h
  · exact stepc_76 w g m hb hm i hi hp r hr left hf h
  · exact stepc_92 w g m hb hm i hi hp r hr left hf h
  · exact stepc_172 w g m hb hm i hi hp r hr left hf h
  · exact stepc_108 w g m hb hm i hi hp r hr left hf h
  · exact stepc_124 w g m hb hm i hi hp r hr left hf h
  · exact stepc_21 w g m hb hm i hi hp r hr left hf h
  · exact stepc_37 w g m hb hm i hi hp r hr left hf h
  · exact stepc_53 w g m hb hm i hi hp r hr left hf h
  · exact stepc_69 w g m hb hm i hi hp r hr left hf h
  · exact stepc_29 w g m hb hm i hi hp r hr left hf h
  · exact stepc_45 w g m hb hm i hi hp r hr left hf h
  · exact stepc_61 w g m hb hm i hi hp r hr left hf h
  · exact stepc_77 w g m hb hm i hi hp r hr left hf h
  · exact stepc_5 w g m hb hm i hi hp r hr left hf h
  · exact stepc_32 w g m hb hm i hi hp r hr left hf h
  · exact stepc_96 w g m hb hm i hi hp r hr left hf h
  · exact stepc_97 w g m hb hm i hi hp r hr left hf h
  · exact stepc_2 w g m hb hm i hi hp r hr left hf h
  · exact stepc_3 w g m hb hm i hi hp r hr left hf h
  · exact stepc_52 w g m hb hm i hi hp r hr left hf h
  · exact stepc_148 w g m hb hm i hi hp r hr left hf h
  · exact stepc_100 w g m hb hm i hi hp r hr left hf h
  · exact stepc_116 w g m hb hm i hi hp r hr left hf h
  · exact stepc_6 w g m hb hm i hi hp r hr left hf h
  · exact stepc_22 w g m hb hm i hi hp r hr left hf h
#print axioms step_any
end Go.Proofs.YtjgcfffepkmojaaGreat
