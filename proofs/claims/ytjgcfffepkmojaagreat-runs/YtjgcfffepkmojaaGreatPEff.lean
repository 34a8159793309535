import Derived.Test.YtjgcfffepkmojaaGreatPTab
import Derived.Test.YtjgcfffepkmojaaGreatPMore
import Derived.Test.YtjgcfffepkmojaaGreatPWays
import Derived.Test.YtjgcfffepkmojaaGreatMSpec
namespace Go.Proofs.YtjgcfffepkmojaaGreat
open Go.RowKit
set_option linter.unusedVariables false

/-- What stands in the table at an instruction's code makes of the run m'. -/
def Eff (w : World) (g : Nat) (i : Ins) (r : ByteArray) (m' : Mc) : Prop := ∃ F f, tab[i.code.toNat]? = some (.func F #[] #[]) ∧
  (∀ w1 x, (invoke (.fn F #[]) #[.pointer (some ⟨g, 0, none⟩), x]).run Tryz.prog w1 = .ok (.enter f #[.pointer (some ⟨g, 0, none⟩), x]) w1) ∧ PT f w g i r m'

theorem effc_0 (w : World) (g : Nat) (m : Mc) (r : ByteArray) (hb : PB w g { m with pc := m.pc + 1 } r) (hm : m.ok) (i : Ins) (hi : i.ok) (hp : m.pc ≤ 9999) (hr : r.size = 64) (left : Int) (hf : flt i left = 0) (h : i.code = 0) : Eff w g i r (stp i r m) := by
  refine ⟨_, _, by rw [h]; kernel_rfl, fun w1 x => inv_loadK w1 g x, ?_⟩
  have := p_loadK w g _ r hb i
  unfold stp
  simp only [h]
  exact this
theorem effc_1 (w : World) (g : Nat) (m : Mc) (r : ByteArray) (hb : PB w g { m with pc := m.pc + 1 } r) (hm : m.ok) (i : Ins) (hi : i.ok) (hp : m.pc ≤ 9999) (hr : r.size = 64) (left : Int) (hf : flt i left = 0) (h : i.code = 1) : Eff w g i r (stp i r m) := by
  refine ⟨_, _, by rw [h]; kernel_rfl, fun w1 x => inv_loadXK w1 g x, ?_⟩
  have := p_loadXK w g _ r hb i
  unfold stp
  simp only [h]
  exact this
theorem effc_128 (w : World) (g : Nat) (m : Mc) (r : ByteArray) (hb : PB w g { m with pc := m.pc + 1 } r) (hm : m.ok) (i : Ins) (hi : i.ok) (hp : m.pc ≤ 9999) (hr : r.size = 64) (left : Int) (hf : flt i left = 0) (h : i.code = 128) : Eff w g i r (stp i r m) := by
  refine ⟨_, _, by rw [h]; kernel_rfl, fun w1 x => inv_loadLen w1 g x, ?_⟩
  have := p_loadLen w g _ r hb i
  unfold stp
  simp only [h]
  exact this
theorem effc_129 (w : World) (g : Nat) (m : Mc) (r : ByteArray) (hb : PB w g { m with pc := m.pc + 1 } r) (hm : m.ok) (i : Ins) (hi : i.ok) (hp : m.pc ≤ 9999) (hr : r.size = 64) (left : Int) (hf : flt i left = 0) (h : i.code = 129) : Eff w g i r (stp i r m) := by
  refine ⟨_, _, by rw [h]; kernel_rfl, fun w1 x => inv_loadXLen w1 g x, ?_⟩
  have := p_loadXLen w g _ r hb i
  unfold stp
  simp only [h]
  exact this
theorem effc_7 (w : World) (g : Nat) (m : Mc) (r : ByteArray) (hb : PB w g { m with pc := m.pc + 1 } r) (hm : m.ok) (i : Ins) (hi : i.ok) (hp : m.pc ≤ 9999) (hr : r.size = 64) (left : Int) (hf : flt i left = 0) (h : i.code = 7) : Eff w g i r (stp i r m) := by
  refine ⟨_, _, by rw [h]; kernel_rfl, fun w1 x => inv_toX w1 g x, ?_⟩
  have := p_toX w g _ r hb i
  unfold stp
  simp only [h]
  exact this
theorem effc_135 (w : World) (g : Nat) (m : Mc) (r : ByteArray) (hb : PB w g { m with pc := m.pc + 1 } r) (hm : m.ok) (i : Ins) (hi : i.ok) (hp : m.pc ≤ 9999) (hr : r.size = 64) (left : Int) (hf : flt i left = 0) (h : i.code = 135) : Eff w g i r (stp i r m) := by
  refine ⟨_, _, by rw [h]; kernel_rfl, fun w1 x => inv_fromX w1 g x, ?_⟩
  have := p_fromX w g _ r hb i
  unfold stp
  simp only [h]
  exact this
theorem effc_132 (w : World) (g : Nat) (m : Mc) (r : ByteArray) (hb : PB w g { m with pc := m.pc + 1 } r) (hm : m.ok) (i : Ins) (hi : i.ok) (hp : m.pc ≤ 9999) (hr : r.size = 64) (left : Int) (hf : flt i left = 0) (h : i.code = 132) : Eff w g i r (stp i r m) := by
  refine ⟨_, _, by rw [h]; kernel_rfl, fun w1 x => inv_neg w1 g x, ?_⟩
  have hk : U32 i.k := hi.2.2.2
  have hl : low i.code = 132 := by rw [h]; decide
  have hx : xb i.code = false := by rw [h]; decide
  have hop : opd i { m with pc := m.pc + 1 } = i.k := by
    unfold opd
    rw [h, show xb8 132 = false from by decide +kernel]
    rfl
  have e : stp i r m = alu 132 i.k i { m with pc := m.pc + 1 } := by
    unfold stp
    rw [hl, hx]
    simp only [h]
    rfl
  rw [e]
  exact p_neg w g _ r hb i
theorem effc_4 (w : World) (g : Nat) (m : Mc) (r : ByteArray) (hb : PB w g { m with pc := m.pc + 1 } r) (hm : m.ok) (i : Ins) (hi : i.ok) (hp : m.pc ≤ 9999) (hr : r.size = 64) (left : Int) (hf : flt i left = 0) (h : i.code = 4) : Eff w g i r (stp i r m) := by
  refine ⟨_, _, by rw [h]; kernel_rfl, fun w1 x => inv_add w1 g x, ?_⟩
  have hk : U32 i.k := hi.2.2.2
  have hl : low i.code = 4 := by rw [h]; decide
  have hx : xb i.code = false := by rw [h]; decide
  have hop : opd i { m with pc := m.pc + 1 } = i.k := by
    unfold opd
    rw [h, show xb8 4 = false from by decide +kernel]
    rfl
  have e : stp i r m = alu 4 i.k i { m with pc := m.pc + 1 } := by
    unfold stp
    rw [hl, hx]
    simp only [h]
    rfl
  rw [e]
  have := p_add w g _ r hb i
  rw [hop] at this
  exact this
theorem effc_20 (w : World) (g : Nat) (m : Mc) (r : ByteArray) (hb : PB w g { m with pc := m.pc + 1 } r) (hm : m.ok) (i : Ins) (hi : i.ok) (hp : m.pc ≤ 9999) (hr : r.size = 64) (left : Int) (hf : flt i left = 0) (h : i.code = 20) : Eff w g i r (stp i r m) := by
  refine ⟨_, _, by rw [h]; kernel_rfl, fun w1 x => inv_sub w1 g x, ?_⟩
  have hk : U32 i.k := hi.2.2.2
  have hl : low i.code = 20 := by rw [h]; decide
  have hx : xb i.code = false := by rw [h]; decide
  have hop : opd i { m with pc := m.pc + 1 } = i.k := by
    unfold opd
    rw [h, show xb8 20 = false from by decide +kernel]
    rfl
  have e : stp i r m = alu 20 i.k i { m with pc := m.pc + 1 } := by
    unfold stp
    rw [hl, hx]
    simp only [h]
    rfl
  rw [e]
  have := p_sub w g _ r hb i
  rw [hop] at this
  exact this
theorem effc_36 (w : World) (g : Nat) (m : Mc) (r : ByteArray) (hb : PB w g { m with pc := m.pc + 1 } r) (hm : m.ok) (i : Ins) (hi : i.ok) (hp : m.pc ≤ 9999) (hr : r.size = 64) (left : Int) (hf : flt i left = 0) (h : i.code = 36) : Eff w g i r (stp i r m) := by
  refine ⟨_, _, by rw [h]; kernel_rfl, fun w1 x => inv_mul w1 g x, ?_⟩
  have hk : U32 i.k := hi.2.2.2
  have hl : low i.code = 36 := by rw [h]; decide
  have hx : xb i.code = false := by rw [h]; decide
  have hop : opd i { m with pc := m.pc + 1 } = i.k := by
    unfold opd
    rw [h, show xb8 36 = false from by decide +kernel]
    rfl
  have e : stp i r m = alu 36 i.k i { m with pc := m.pc + 1 } := by
    unfold stp
    rw [hl, hx]
    simp only [h]
    rfl
  rw [e]
  have := p_mul w g _ r hb i
  rw [hop] at this
  exact this
theorem effc_68 (w : World) (g : Nat) (m : Mc) (r : ByteArray) (hb : PB w g { m with pc := m.pc + 1 } r) (hm : m.ok) (i : Ins) (hi : i.ok) (hp : m.pc ≤ 9999) (hr : r.size = 64) (left : Int) (hf : flt i left = 0) (h : i.code = 68) : Eff w g i r (stp i r m) := by
  refine ⟨_, _, by rw [h]; kernel_rfl, fun w1 x => inv_or w1 g x, ?_⟩
  have hk : U32 i.k := hi.2.2.2
  have hl : low i.code = 68 := by rw [h]; decide
  have hx : xb i.code = false := by rw [h]; decide
  have hop : opd i { m with pc := m.pc + 1 } = i.k := by
    unfold opd
    rw [h, show xb8 68 = false from by decide +kernel]
    rfl
  have e : stp i r m = alu 68 i.k i { m with pc := m.pc + 1 } := by
    unfold stp
    rw [hl, hx]
    simp only [h]
    rfl
  rw [e]
  have := p_or w g _ r hb i
  rw [hop] at this
  exact this
theorem effc_84 (w : World) (g : Nat) (m : Mc) (r : ByteArray) (hb : PB w g { m with pc := m.pc + 1 } r) (hm : m.ok) (i : Ins) (hi : i.ok) (hp : m.pc ≤ 9999) (hr : r.size = 64) (left : Int) (hf : flt i left = 0) (h : i.code = 84) : Eff w g i r (stp i r m) := by
  refine ⟨_, _, by rw [h]; kernel_rfl, fun w1 x => inv_and w1 g x, ?_⟩
  have hk : U32 i.k := hi.2.2.2
  have hl : low i.code = 84 := by rw [h]; decide
  have hx : xb i.code = false := by rw [h]; decide
  have hop : opd i { m with pc := m.pc + 1 } = i.k := by
    unfold opd
    rw [h, show xb8 84 = false from by decide +kernel]
    rfl
  have e : stp i r m = alu 84 i.k i { m with pc := m.pc + 1 } := by
    unfold stp
    rw [hl, hx]
    simp only [h]
    rfl
  rw [e]
  have := p_and w g _ r hb i
  rw [hop] at this
  exact this
theorem effc_164 (w : World) (g : Nat) (m : Mc) (r : ByteArray) (hb : PB w g { m with pc := m.pc + 1 } r) (hm : m.ok) (i : Ins) (hi : i.ok) (hp : m.pc ≤ 9999) (hr : r.size = 64) (left : Int) (hf : flt i left = 0) (h : i.code = 164) : Eff w g i r (stp i r m) := by
  refine ⟨_, _, by rw [h]; kernel_rfl, fun w1 x => inv_xor w1 g x, ?_⟩
  have hk : U32 i.k := hi.2.2.2
  have hl : low i.code = 164 := by rw [h]; decide
  have hx : xb i.code = false := by rw [h]; decide
  have hop : opd i { m with pc := m.pc + 1 } = i.k := by
    unfold opd
    rw [h, show xb8 164 = false from by decide +kernel]
    rfl
  have e : stp i r m = alu 164 i.k i { m with pc := m.pc + 1 } := by
    unfold stp
    rw [hl, hx]
    simp only [h]
    rfl
  rw [e]
  have := p_xor w g _ r hb i
  rw [hop] at this
  exact this
theorem effc_12 (w : World) (g : Nat) (m : Mc) (r : ByteArray) (hb : PB w g { m with pc := m.pc + 1 } r) (hm : m.ok) (i : Ins) (hi : i.ok) (hp : m.pc ≤ 9999) (hr : r.size = 64) (left : Int) (hf : flt i left = 0) (h : i.code = 12) : Eff w g i r (stp i r m) := by
  refine ⟨_, _, by rw [h]; kernel_rfl, fun w1 x => inv_add w1 g x, ?_⟩
  have hk : U32 m.x := hm.x
  have hl : low i.code = 4 := by rw [h]; decide
  have hx : xb i.code = true := by rw [h]; decide
  have hop : opd i { m with pc := m.pc + 1 } = m.x := by
    unfold opd
    rw [h, show xb8 12 = true from by decide +kernel]
    rfl
  have e : stp i r m = alu 4 m.x i { m with pc := m.pc + 1 } := by
    unfold stp
    rw [hl, hx]
    simp only [h]
    rfl
  rw [e]
  have := p_add w g _ r hb i
  rw [hop] at this
  exact this
theorem effc_28 (w : World) (g : Nat) (m : Mc) (r : ByteArray) (hb : PB w g { m with pc := m.pc + 1 } r) (hm : m.ok) (i : Ins) (hi : i.ok) (hp : m.pc ≤ 9999) (hr : r.size = 64) (left : Int) (hf : flt i left = 0) (h : i.code = 28) : Eff w g i r (stp i r m) := by
  refine ⟨_, _, by rw [h]; kernel_rfl, fun w1 x => inv_sub w1 g x, ?_⟩
  have hk : U32 m.x := hm.x
  have hl : low i.code = 20 := by rw [h]; decide
  have hx : xb i.code = true := by rw [h]; decide
  have hop : opd i { m with pc := m.pc + 1 } = m.x := by
    unfold opd
    rw [h, show xb8 28 = true from by decide +kernel]
    rfl
  have e : stp i r m = alu 20 m.x i { m with pc := m.pc + 1 } := by
    unfold stp
    rw [hl, hx]
    simp only [h]
    rfl
  rw [e]
  have := p_sub w g _ r hb i
  rw [hop] at this
  exact this
theorem effc_44 (w : World) (g : Nat) (m : Mc) (r : ByteArray) (hb : PB w g { m with pc := m.pc + 1 } r) (hm : m.ok) (i : Ins) (hi : i.ok) (hp : m.pc ≤ 9999) (hr : r.size = 64) (left : Int) (hf : flt i left = 0) (h : i.code = 44) : Eff w g i r (stp i r m) := by
  refine ⟨_, _, by rw [h]; kernel_rfl, fun w1 x => inv_mul w1 g x, ?_⟩
  have hk : U32 m.x := hm.x
  have hl : low i.code = 36 := by rw [h]; decide
  have hx : xb i.code = true := by rw [h]; decide
  have hop : opd i { m with pc := m.pc + 1 } = m.x := by
    unfold opd
    rw [h, show xb8 44 = true from by decide +kernel]
    rfl
  have e : stp i r m = alu 36 m.x i { m with pc := m.pc + 1 } := by
    unfold stp
    rw [hl, hx]
    simp only [h]
    rfl
  rw [e]
  have := p_mul w g _ r hb i
  rw [hop] at this
  exact this
theorem effc_60 (w : World) (g : Nat) (m : Mc) (r : ByteArray) (hb : PB w g { m with pc := m.pc + 1 } r) (hm : m.ok) (i : Ins) (hi : i.ok) (hp : m.pc ≤ 9999) (hr : r.size = 64) (left : Int) (hf : flt i left = 0) (h : i.code = 60) : Eff w g i r (stp i r m) := by
  refine ⟨_, _, by rw [h]; kernel_rfl, fun w1 x => inv_div w1 g x, ?_⟩
  have hk : U32 m.x := hm.x
  have hl : low i.code = 52 := by rw [h]; decide
  have hx : xb i.code = true := by rw [h]; decide
  have hop : opd i { m with pc := m.pc + 1 } = m.x := by
    unfold opd
    rw [h, show xb8 60 = true from by decide +kernel]
    rfl
  have e : stp i r m = alu 52 m.x i { m with pc := m.pc + 1 } := by
    unfold stp
    rw [hl, hx]
    simp only [h]
    rfl
  rw [e]
  by_cases hk0 : m.x = 0
  · have e2 : alu 52 m.x i { m with pc := m.pc + 1 } = { m with pc := m.pc + 1, e := true, v := 0 } := by simp [alu, hk0]
    rw [e2]
    exact p_div0 w g _ r hb i (by rw [hop]; exact hk0)
  · have e2 : alu 52 m.x i { m with pc := m.pc + 1 } = { m with pc := m.pc + 1, a := m.a.tdiv m.x % 4294967296 } := by
      rw [quo_eq _ _ hm.a hk]
      simp [alu, hk0]
    rw [e2]
    exact p_div w g _ r hb i _ hop (by simp [hk0]) hk0
theorem effc_156 (w : World) (g : Nat) (m : Mc) (r : ByteArray) (hb : PB w g { m with pc := m.pc + 1 } r) (hm : m.ok) (i : Ins) (hi : i.ok) (hp : m.pc ≤ 9999) (hr : r.size = 64) (left : Int) (hf : flt i left = 0) (h : i.code = 156) : Eff w g i r (stp i r m) := by
  refine ⟨_, _, by rw [h]; kernel_rfl, fun w1 x => inv_mod w1 g x, ?_⟩
  have hk : U32 m.x := hm.x
  have hl : low i.code = 148 := by rw [h]; decide
  have hx : xb i.code = true := by rw [h]; decide
  have hop : opd i { m with pc := m.pc + 1 } = m.x := by
    unfold opd
    rw [h, show xb8 156 = true from by decide +kernel]
    rfl
  have e : stp i r m = alu 148 m.x i { m with pc := m.pc + 1 } := by
    unfold stp
    rw [hl, hx]
    simp only [h]
    rfl
  rw [e]
  by_cases hk0 : m.x = 0
  · have e2 : alu 148 m.x i { m with pc := m.pc + 1 } = { m with pc := m.pc + 1, e := true, v := 0 } := by simp [alu, hk0]
    rw [e2]
    exact p_mod0 w g _ r hb i (by rw [hop]; exact hk0)
  · have e2 : alu 148 m.x i { m with pc := m.pc + 1 } = { m with pc := m.pc + 1, a := m.a.tmod m.x } := by
      rw [Int.tmod_eq_emod_of_nonneg hm.a.1]
      simp [alu, hk0]
    rw [e2]
    exact p_mod w g _ r hb i _ hop (by simp [hk0]) hk0
theorem effc_76 (w : World) (g : Nat) (m : Mc) (r : ByteArray) (hb : PB w g { m with pc := m.pc + 1 } r) (hm : m.ok) (i : Ins) (hi : i.ok) (hp : m.pc ≤ 9999) (hr : r.size = 64) (left : Int) (hf : flt i left = 0) (h : i.code = 76) : Eff w g i r (stp i r m) := by
  refine ⟨_, _, by rw [h]; kernel_rfl, fun w1 x => inv_or w1 g x, ?_⟩
  have hk : U32 m.x := hm.x
  have hl : low i.code = 68 := by rw [h]; decide
  have hx : xb i.code = true := by rw [h]; decide
  have hop : opd i { m with pc := m.pc + 1 } = m.x := by
    unfold opd
    rw [h, show xb8 76 = true from by decide +kernel]
    rfl
  have e : stp i r m = alu 68 m.x i { m with pc := m.pc + 1 } := by
    unfold stp
    rw [hl, hx]
    simp only [h]
    rfl
  rw [e]
  have := p_or w g _ r hb i
  rw [hop] at this
  exact this
theorem effc_92 (w : World) (g : Nat) (m : Mc) (r : ByteArray) (hb : PB w g { m with pc := m.pc + 1 } r) (hm : m.ok) (i : Ins) (hi : i.ok) (hp : m.pc ≤ 9999) (hr : r.size = 64) (left : Int) (hf : flt i left = 0) (h : i.code = 92) : Eff w g i r (stp i r m) := by
  refine ⟨_, _, by rw [h]; kernel_rfl, fun w1 x => inv_and w1 g x, ?_⟩
  have hk : U32 m.x := hm.x
  have hl : low i.code = 84 := by rw [h]; decide
  have hx : xb i.code = true := by rw [h]; decide
  have hop : opd i { m with pc := m.pc + 1 } = m.x := by
    unfold opd
    rw [h, show xb8 92 = true from by decide +kernel]
    rfl
  have e : stp i r m = alu 84 m.x i { m with pc := m.pc + 1 } := by
    unfold stp
    rw [hl, hx]
    simp only [h]
    rfl
  rw [e]
  have := p_and w g _ r hb i
  rw [hop] at this
  exact this
theorem effc_172 (w : World) (g : Nat) (m : Mc) (r : ByteArray) (hb : PB w g { m with pc := m.pc + 1 } r) (hm : m.ok) (i : Ins) (hi : i.ok) (hp : m.pc ≤ 9999) (hr : r.size = 64) (left : Int) (hf : flt i left = 0) (h : i.code = 172) : Eff w g i r (stp i r m) := by
  refine ⟨_, _, by rw [h]; kernel_rfl, fun w1 x => inv_xor w1 g x, ?_⟩
  have hk : U32 m.x := hm.x
  have hl : low i.code = 164 := by rw [h]; decide
  have hx : xb i.code = true := by rw [h]; decide
  have hop : opd i { m with pc := m.pc + 1 } = m.x := by
    unfold opd
    rw [h, show xb8 172 = true from by decide +kernel]
    rfl
  have e : stp i r m = alu 164 m.x i { m with pc := m.pc + 1 } := by
    unfold stp
    rw [hl, hx]
    simp only [h]
    rfl
  rw [e]
  have := p_xor w g _ r hb i
  rw [hop] at this
  exact this
theorem effc_108 (w : World) (g : Nat) (m : Mc) (r : ByteArray) (hb : PB w g { m with pc := m.pc + 1 } r) (hm : m.ok) (i : Ins) (hi : i.ok) (hp : m.pc ≤ 9999) (hr : r.size = 64) (left : Int) (hf : flt i left = 0) (h : i.code = 108) : Eff w g i r (stp i r m) := by
  refine ⟨_, _, by rw [h]; kernel_rfl, fun w1 x => inv_shl w1 g x, ?_⟩
  have hk : U32 m.x := hm.x
  have hl : low i.code = 100 := by rw [h]; decide
  have hx : xb i.code = true := by rw [h]; decide
  have hop : opd i { m with pc := m.pc + 1 } = m.x := by
    unfold opd
    rw [h, show xb8 108 = true from by decide +kernel]
    rfl
  have e : stp i r m = alu 100 m.x i { m with pc := m.pc + 1 } := by
    unfold stp
    rw [hl, hx]
    simp only [h]
    rfl
  rw [e]
  have := p_shl w g _ r hb i (by rw [hop]; exact hk)
  rw [hop, sh_eq _ hk] at this
  exact this
theorem effc_124 (w : World) (g : Nat) (m : Mc) (r : ByteArray) (hb : PB w g { m with pc := m.pc + 1 } r) (hm : m.ok) (i : Ins) (hi : i.ok) (hp : m.pc ≤ 9999) (hr : r.size = 64) (left : Int) (hf : flt i left = 0) (h : i.code = 124) : Eff w g i r (stp i r m) := by
  refine ⟨_, _, by rw [h]; kernel_rfl, fun w1 x => inv_shr w1 g x, ?_⟩
  have hk : U32 m.x := hm.x
  have hl : low i.code = 116 := by rw [h]; decide
  have hx : xb i.code = true := by rw [h]; decide
  have hop : opd i { m with pc := m.pc + 1 } = m.x := by
    unfold opd
    rw [h, show xb8 124 = true from by decide +kernel]
    rfl
  have e : stp i r m = alu 116 m.x i { m with pc := m.pc + 1 } := by
    unfold stp
    rw [hl, hx]
    simp only [h]
    rfl
  rw [e]
  have := p_shr w g _ r hb i (by rw [hop]; exact hk)
  rw [hop, sh_eq _ hk] at this
  exact this
theorem effc_21 (w : World) (g : Nat) (m : Mc) (r : ByteArray) (hb : PB w g { m with pc := m.pc + 1 } r) (hm : m.ok) (i : Ins) (hi : i.ok) (hp : m.pc ≤ 9999) (hr : r.size = 64) (left : Int) (hf : flt i left = 0) (h : i.code = 21) : Eff w g i r (stp i r m) := by
  refine ⟨_, _, by rw [h]; kernel_rfl, fun w1 x => inv_ifEqual w1 g x, ?_⟩
  have hk : U32 i.k := hi.2.2.2
  have hl : low i.code = 21 := by rw [h]; decide
  have hx : xb i.code = false := by rw [h]; decide
  have hop : opd i { m with pc := m.pc + 1 } = i.k := by
    unfold opd
    rw [h, show xb8 21 = false from by decide +kernel]
    rfl
  have e : stp i r m = alu 21 i.k i { m with pc := m.pc + 1 } := by
    unfold stp
    rw [hl, hx]
    simp only [h]
    rfl
  rw [e]
  exact p_ifEqual w g _ r hb i hi (by show m.pc + 1 ≤ 10000; omega) _ hop
theorem effc_37 (w : World) (g : Nat) (m : Mc) (r : ByteArray) (hb : PB w g { m with pc := m.pc + 1 } r) (hm : m.ok) (i : Ins) (hi : i.ok) (hp : m.pc ≤ 9999) (hr : r.size = 64) (left : Int) (hf : flt i left = 0) (h : i.code = 37) : Eff w g i r (stp i r m) := by
  refine ⟨_, _, by rw [h]; kernel_rfl, fun w1 x => inv_ifMore w1 g x, ?_⟩
  have hk : U32 i.k := hi.2.2.2
  have hl : low i.code = 37 := by rw [h]; decide
  have hx : xb i.code = false := by rw [h]; decide
  have hop : opd i { m with pc := m.pc + 1 } = i.k := by
    unfold opd
    rw [h, show xb8 37 = false from by decide +kernel]
    rfl
  have e : stp i r m = alu 37 i.k i { m with pc := m.pc + 1 } := by
    unfold stp
    rw [hl, hx]
    simp only [h]
    rfl
  rw [e]
  exact p_ifMore w g _ r hb i hi (by show m.pc + 1 ≤ 10000; omega) _ hop
theorem effc_53 (w : World) (g : Nat) (m : Mc) (r : ByteArray) (hb : PB w g { m with pc := m.pc + 1 } r) (hm : m.ok) (i : Ins) (hi : i.ok) (hp : m.pc ≤ 9999) (hr : r.size = 64) (left : Int) (hf : flt i left = 0) (h : i.code = 53) : Eff w g i r (stp i r m) := by
  refine ⟨_, _, by rw [h]; kernel_rfl, fun w1 x => inv_ifLeast w1 g x, ?_⟩
  have hk : U32 i.k := hi.2.2.2
  have hl : low i.code = 53 := by rw [h]; decide
  have hx : xb i.code = false := by rw [h]; decide
  have hop : opd i { m with pc := m.pc + 1 } = i.k := by
    unfold opd
    rw [h, show xb8 53 = false from by decide +kernel]
    rfl
  have e : stp i r m = alu 53 i.k i { m with pc := m.pc + 1 } := by
    unfold stp
    rw [hl, hx]
    simp only [h]
    rfl
  rw [e]
  exact p_ifLeast w g _ r hb i hi (by show m.pc + 1 ≤ 10000; omega) _ hop
theorem effc_69 (w : World) (g : Nat) (m : Mc) (r : ByteArray) (hb : PB w g { m with pc := m.pc + 1 } r) (hm : m.ok) (i : Ins) (hi : i.ok) (hp : m.pc ≤ 9999) (hr : r.size = 64) (left : Int) (hf : flt i left = 0) (h : i.code = 69) : Eff w g i r (stp i r m) := by
  refine ⟨_, _, by rw [h]; kernel_rfl, fun w1 x => inv_ifBits w1 g x, ?_⟩
  have hk : U32 i.k := hi.2.2.2
  have hl : low i.code = 69 := by rw [h]; decide
  have hx : xb i.code = false := by rw [h]; decide
  have hop : opd i { m with pc := m.pc + 1 } = i.k := by
    unfold opd
    rw [h, show xb8 69 = false from by decide +kernel]
    rfl
  have e : stp i r m = alu 69 i.k i { m with pc := m.pc + 1 } := by
    unfold stp
    rw [hl, hx]
    simp only [h]
    rfl
  rw [e]
  exact p_ifBits w g _ r hb i hi (by show m.pc + 1 ≤ 10000; omega) _ hop
theorem effc_29 (w : World) (g : Nat) (m : Mc) (r : ByteArray) (hb : PB w g { m with pc := m.pc + 1 } r) (hm : m.ok) (i : Ins) (hi : i.ok) (hp : m.pc ≤ 9999) (hr : r.size = 64) (left : Int) (hf : flt i left = 0) (h : i.code = 29) : Eff w g i r (stp i r m) := by
  refine ⟨_, _, by rw [h]; kernel_rfl, fun w1 x => inv_ifEqual w1 g x, ?_⟩
  have hk : U32 m.x := hm.x
  have hl : low i.code = 21 := by rw [h]; decide
  have hx : xb i.code = true := by rw [h]; decide
  have hop : opd i { m with pc := m.pc + 1 } = m.x := by
    unfold opd
    rw [h, show xb8 29 = true from by decide +kernel]
    rfl
  have e : stp i r m = alu 21 m.x i { m with pc := m.pc + 1 } := by
    unfold stp
    rw [hl, hx]
    simp only [h]
    rfl
  rw [e]
  exact p_ifEqual w g _ r hb i hi (by show m.pc + 1 ≤ 10000; omega) _ hop
theorem effc_45 (w : World) (g : Nat) (m : Mc) (r : ByteArray) (hb : PB w g { m with pc := m.pc + 1 } r) (hm : m.ok) (i : Ins) (hi : i.ok) (hp : m.pc ≤ 9999) (hr : r.size = 64) (left : Int) (hf : flt i left = 0) (h : i.code = 45) : Eff w g i r (stp i r m) := by
  refine ⟨_, _, by rw [h]; kernel_rfl, fun w1 x => inv_ifMore w1 g x, ?_⟩
  have hk : U32 m.x := hm.x
  have hl : low i.code = 37 := by rw [h]; decide
  have hx : xb i.code = true := by rw [h]; decide
  have hop : opd i { m with pc := m.pc + 1 } = m.x := by
    unfold opd
    rw [h, show xb8 45 = true from by decide +kernel]
    rfl
  have e : stp i r m = alu 37 m.x i { m with pc := m.pc + 1 } := by
    unfold stp
    rw [hl, hx]
    simp only [h]
    rfl
  rw [e]
  exact p_ifMore w g _ r hb i hi (by show m.pc + 1 ≤ 10000; omega) _ hop
theorem effc_61 (w : World) (g : Nat) (m : Mc) (r : ByteArray) (hb : PB w g { m with pc := m.pc + 1 } r) (hm : m.ok) (i : Ins) (hi : i.ok) (hp : m.pc ≤ 9999) (hr : r.size = 64) (left : Int) (hf : flt i left = 0) (h : i.code = 61) : Eff w g i r (stp i r m) := by
  refine ⟨_, _, by rw [h]; kernel_rfl, fun w1 x => inv_ifLeast w1 g x, ?_⟩
  have hk : U32 m.x := hm.x
  have hl : low i.code = 53 := by rw [h]; decide
  have hx : xb i.code = true := by rw [h]; decide
  have hop : opd i { m with pc := m.pc + 1 } = m.x := by
    unfold opd
    rw [h, show xb8 61 = true from by decide +kernel]
    rfl
  have e : stp i r m = alu 53 m.x i { m with pc := m.pc + 1 } := by
    unfold stp
    rw [hl, hx]
    simp only [h]
    rfl
  rw [e]
  exact p_ifLeast w g _ r hb i hi (by show m.pc + 1 ≤ 10000; omega) _ hop
theorem effc_77 (w : World) (g : Nat) (m : Mc) (r : ByteArray) (hb : PB w g { m with pc := m.pc + 1 } r) (hm : m.ok) (i : Ins) (hi : i.ok) (hp : m.pc ≤ 9999) (hr : r.size = 64) (left : Int) (hf : flt i left = 0) (h : i.code = 77) : Eff w g i r (stp i r m) := by
  refine ⟨_, _, by rw [h]; kernel_rfl, fun w1 x => inv_ifBits w1 g x, ?_⟩
  have hk : U32 m.x := hm.x
  have hl : low i.code = 69 := by rw [h]; decide
  have hx : xb i.code = true := by rw [h]; decide
  have hop : opd i { m with pc := m.pc + 1 } = m.x := by
    unfold opd
    rw [h, show xb8 77 = true from by decide +kernel]
    rfl
  have e : stp i r m = alu 69 m.x i { m with pc := m.pc + 1 } := by
    unfold stp
    rw [hl, hx]
    simp only [h]
    rfl
  rw [e]
  exact p_ifBits w g _ r hb i hi (by show m.pc + 1 ≤ 10000; omega) _ hop
theorem effc_5 (w : World) (g : Nat) (m : Mc) (r : ByteArray) (hb : PB w g { m with pc := m.pc + 1 } r) (hm : m.ok) (i : Ins) (hi : i.ok) (hp : m.pc ≤ 9999) (hr : r.size = 64) (left : Int) (hf : flt i left = 0) (h : i.code = 5) : Eff w g i r (stp i r m) := by
  refine ⟨_, _, by rw [h]; kernel_rfl, fun w1 x => inv_jump w1 g x, ?_⟩
  obtain ⟨kn, hkn⟩ := Int.eq_ofNat_of_zero_le hi.2.2.2.1
  have hb' := hi.2.2.2.2
  have := p_jump w g _ r hb i kn hkn (by omega) (by show m.pc + 1 ≤ 10000; omega)
  unfold stp
  simp only [h]
  rw [show i.k.toNat = kn by omega]
  exact this
theorem effc_32 (w : World) (g : Nat) (m : Mc) (r : ByteArray) (hb : PB w g { m with pc := m.pc + 1 } r) (hm : m.ok) (i : Ins) (hi : i.ok) (hp : m.pc ≤ 9999) (hr : r.size = 64) (left : Int) (hf : flt i left = 0) (h : i.code = 32) : Eff w g i r (stp i r m) := by
  refine ⟨_, _, by rw [h]; kernel_rfl, fun w1 x => inv_loadAt w1 g x, ?_⟩
  obtain ⟨kn, hkn⟩ := Int.eq_ofNat_of_zero_le hi.2.2.2.1
  have hk : knd i.code = 4 := by rw [h]; decide
  have hkk : i.k % 4 = 0 ∧ i.k < 64 := by
    unfold flt at hf
    rw [hk] at hf
    simp at hf
    omega
  have := p_loadAt w g _ r hb i kn hkn (by omega) (by omega)
  unfold stp
  simp only [h]
  rw [show i.k.toNat = kn by omega]
  exact this
theorem effc_96 (w : World) (g : Nat) (m : Mc) (r : ByteArray) (hb : PB w g { m with pc := m.pc + 1 } r) (hm : m.ok) (i : Ins) (hi : i.ok) (hp : m.pc ≤ 9999) (hr : r.size = 64) (left : Int) (hf : flt i left = 0) (h : i.code = 96) : Eff w g i r (stp i r m) := by
  refine ⟨_, _, by rw [h]; kernel_rfl, fun w1 x => inv_loadCell w1 g x, ?_⟩
  obtain ⟨kn, hkn⟩ := Int.eq_ofNat_of_zero_le hi.2.2.2.1
  have hk : knd i.code = 5 := by rw [h]; decide
  have hkk : i.k < 16 := by
    unfold flt at hf
    rw [hk] at hf
    simp at hf
    omega
  have := p_loadCell w g _ r hb i kn hkn (by omega)
  unfold stp
  simp only [h]
  rw [show i.k.toNat = kn by omega]
  exact this
theorem effc_97 (w : World) (g : Nat) (m : Mc) (r : ByteArray) (hb : PB w g { m with pc := m.pc + 1 } r) (hm : m.ok) (i : Ins) (hi : i.ok) (hp : m.pc ≤ 9999) (hr : r.size = 64) (left : Int) (hf : flt i left = 0) (h : i.code = 97) : Eff w g i r (stp i r m) := by
  refine ⟨_, _, by rw [h]; kernel_rfl, fun w1 x => inv_loadX w1 g x, ?_⟩
  obtain ⟨kn, hkn⟩ := Int.eq_ofNat_of_zero_le hi.2.2.2.1
  have hk : knd i.code = 5 := by rw [h]; decide
  have hkk : i.k < 16 := by
    unfold flt at hf
    rw [hk] at hf
    simp at hf
    omega
  have := p_loadX w g _ r hb i kn hkn (by omega)
  unfold stp
  simp only [h]
  rw [show i.k.toNat = kn by omega]
  exact this
theorem effc_2 (w : World) (g : Nat) (m : Mc) (r : ByteArray) (hb : PB w g { m with pc := m.pc + 1 } r) (hm : m.ok) (i : Ins) (hi : i.ok) (hp : m.pc ≤ 9999) (hr : r.size = 64) (left : Int) (hf : flt i left = 0) (h : i.code = 2) : Eff w g i r (stp i r m) := by
  refine ⟨_, _, by rw [h]; kernel_rfl, fun w1 x => inv_store w1 g x, ?_⟩
  obtain ⟨kn, hkn⟩ := Int.eq_ofNat_of_zero_le hi.2.2.2.1
  have hk : knd i.code = 6 := by rw [h]; decide
  have hkk : i.k < 16 := by
    unfold flt at hf
    rw [hk] at hf
    simp at hf
    omega
  have := p_store w g _ r hb i kn hkn (by omega)
  unfold stp
  simp only [h]
  rw [show i.k.toNat = kn by omega]
  exact this
theorem effc_3 (w : World) (g : Nat) (m : Mc) (r : ByteArray) (hb : PB w g { m with pc := m.pc + 1 } r) (hm : m.ok) (i : Ins) (hi : i.ok) (hp : m.pc ≤ 9999) (hr : r.size = 64) (left : Int) (hf : flt i left = 0) (h : i.code = 3) : Eff w g i r (stp i r m) := by
  refine ⟨_, _, by rw [h]; kernel_rfl, fun w1 x => inv_storeX w1 g x, ?_⟩
  obtain ⟨kn, hkn⟩ := Int.eq_ofNat_of_zero_le hi.2.2.2.1
  have hk : knd i.code = 6 := by rw [h]; decide
  have hkk : i.k < 16 := by
    unfold flt at hf
    rw [hk] at hf
    simp at hf
    omega
  have := p_storeX w g _ r hb i kn hkn (by omega)
  unfold stp
  simp only [h]
  rw [show i.k.toNat = kn by omega]
  exact this
theorem effc_52 (w : World) (g : Nat) (m : Mc) (r : ByteArray) (hb : PB w g { m with pc := m.pc + 1 } r) (hm : m.ok) (i : Ins) (hi : i.ok) (hp : m.pc ≤ 9999) (hr : r.size = 64) (left : Int) (hf : flt i left = 0) (h : i.code = 52) : Eff w g i r (stp i r m) := by
  refine ⟨_, _, by rw [h]; kernel_rfl, fun w1 x => inv_div w1 g x, ?_⟩
  have hk : U32 i.k := hi.2.2.2
  have hl : low i.code = 52 := by rw [h]; decide
  have hx : xb i.code = false := by rw [h]; decide
  have hop : opd i { m with pc := m.pc + 1 } = i.k := by
    unfold opd
    rw [h, show xb8 52 = false from by decide +kernel]
    rfl
  have e : stp i r m = alu 52 i.k i { m with pc := m.pc + 1 } := by
    unfold stp
    rw [hl, hx]
    simp only [h]
    rfl
  rw [e]
  by_cases hk0 : i.k = 0
  · have e2 : alu 52 i.k i { m with pc := m.pc + 1 } = { m with pc := m.pc + 1, e := true, v := 0 } := by simp [alu, hk0]
    rw [e2]
    exact p_div0 w g _ r hb i (by rw [hop]; exact hk0)
  · have e2 : alu 52 i.k i { m with pc := m.pc + 1 } = { m with pc := m.pc + 1, a := m.a.tdiv i.k % 4294967296 } := by
      rw [quo_eq _ _ hm.a hk]
      simp [alu, hk0]
    rw [e2]
    exact p_div w g _ r hb i _ hop (by simp [hk0]) hk0
theorem effc_148 (w : World) (g : Nat) (m : Mc) (r : ByteArray) (hb : PB w g { m with pc := m.pc + 1 } r) (hm : m.ok) (i : Ins) (hi : i.ok) (hp : m.pc ≤ 9999) (hr : r.size = 64) (left : Int) (hf : flt i left = 0) (h : i.code = 148) : Eff w g i r (stp i r m) := by
  refine ⟨_, _, by rw [h]; kernel_rfl, fun w1 x => inv_mod w1 g x, ?_⟩
  have hk : U32 i.k := hi.2.2.2
  have hl : low i.code = 148 := by rw [h]; decide
  have hx : xb i.code = false := by rw [h]; decide
  have hop : opd i { m with pc := m.pc + 1 } = i.k := by
    unfold opd
    rw [h, show xb8 148 = false from by decide +kernel]
    rfl
  have e : stp i r m = alu 148 i.k i { m with pc := m.pc + 1 } := by
    unfold stp
    rw [hl, hx]
    simp only [h]
    rfl
  rw [e]
  by_cases hk0 : i.k = 0
  · have e2 : alu 148 i.k i { m with pc := m.pc + 1 } = { m with pc := m.pc + 1, e := true, v := 0 } := by simp [alu, hk0]
    rw [e2]
    exact p_mod0 w g _ r hb i (by rw [hop]; exact hk0)
  · have e2 : alu 148 i.k i { m with pc := m.pc + 1 } = { m with pc := m.pc + 1, a := m.a.tmod i.k } := by
      rw [Int.tmod_eq_emod_of_nonneg hm.a.1]
      simp [alu, hk0]
    rw [e2]
    exact p_mod w g _ r hb i _ hop (by simp [hk0]) hk0
theorem effc_100 (w : World) (g : Nat) (m : Mc) (r : ByteArray) (hb : PB w g { m with pc := m.pc + 1 } r) (hm : m.ok) (i : Ins) (hi : i.ok) (hp : m.pc ≤ 9999) (hr : r.size = 64) (left : Int) (hf : flt i left = 0) (h : i.code = 100) : Eff w g i r (stp i r m) := by
  refine ⟨_, _, by rw [h]; kernel_rfl, fun w1 x => inv_shl w1 g x, ?_⟩
  have hk : U32 i.k := hi.2.2.2
  have hl : low i.code = 100 := by rw [h]; decide
  have hx : xb i.code = false := by rw [h]; decide
  have hop : opd i { m with pc := m.pc + 1 } = i.k := by
    unfold opd
    rw [h, show xb8 100 = false from by decide +kernel]
    rfl
  have e : stp i r m = alu 100 i.k i { m with pc := m.pc + 1 } := by
    unfold stp
    rw [hl, hx]
    simp only [h]
    rfl
  rw [e]
  have := p_shl w g _ r hb i (by rw [hop]; exact hk)
  rw [hop, sh_eq _ hk] at this
  exact this
theorem effc_116 (w : World) (g : Nat) (m : Mc) (r : ByteArray) (hb : PB w g { m with pc := m.pc + 1 } r) (hm : m.ok) (i : Ins) (hi : i.ok) (hp : m.pc ≤ 9999) (hr : r.size = 64) (left : Int) (hf : flt i left = 0) (h : i.code = 116) : Eff w g i r (stp i r m) := by
  refine ⟨_, _, by rw [h]; kernel_rfl, fun w1 x => inv_shr w1 g x, ?_⟩
  have hk : U32 i.k := hi.2.2.2
  have hl : low i.code = 116 := by rw [h]; decide
  have hx : xb i.code = false := by rw [h]; decide
  have hop : opd i { m with pc := m.pc + 1 } = i.k := by
    unfold opd
    rw [h, show xb8 116 = false from by decide +kernel]
    rfl
  have e : stp i r m = alu 116 i.k i { m with pc := m.pc + 1 } := by
    unfold stp
    rw [hl, hx]
    simp only [h]
    rfl
  rw [e]
  have := p_shr w g _ r hb i (by rw [hop]; exact hk)
  rw [hop, sh_eq _ hk] at this
  exact this
theorem effc_6 (w : World) (g : Nat) (m : Mc) (r : ByteArray) (hb : PB w g { m with pc := m.pc + 1 } r) (hm : m.ok) (i : Ins) (hi : i.ok) (hp : m.pc ≤ 9999) (hr : r.size = 64) (left : Int) (hf : flt i left = 0) (h : i.code = 6) : Eff w g i r (stp i r m) := by
  refine ⟨_, _, by rw [h]; kernel_rfl, fun w1 x => inv_retK w1 g x, ?_⟩
  have := p_retK w g _ r hb i
  unfold stp
  simp only [h]
  exact this
theorem effc_22 (w : World) (g : Nat) (m : Mc) (r : ByteArray) (hb : PB w g { m with pc := m.pc + 1 } r) (hm : m.ok) (i : Ins) (hi : i.ok) (hp : m.pc ≤ 9999) (hr : r.size = 64) (left : Int) (hf : flt i left = 0) (h : i.code = 22) : Eff w g i r (stp i r m) := by
  refine ⟨_, _, by rw [h]; kernel_rfl, fun w1 x => inv_retA w1 g x, ?_⟩
  have := p_retA w g _ r hb i
  unfold stp
  simp only [h]
  exact this
theorem eff_any (w : World) (g : Nat) (m : Mc) (r : ByteArray) (hb : PB w g { m with pc := m.pc + 1 } r) (hm : m.ok) (i : Ins) (hi : i.ok) (hp : m.pc ≤ 9999) (hr : r.size = 64) (left : Int) (hf : flt i left = 0) : Eff w g i r (stp i r m) := by
  have h := known_of hf
  simp only [allCodes, plainCodes, testCodes, List.cons_append, List.nil_append, List.mem_cons, List.not_mem_nil, or_false] at h
  rcases h with h | h | h | h | h | h | h | h | h | h | h | h | h | h | h | h | h | h | h | h | h | h | h | h | h | h | h | h | h | h | h | h | h | h | h | h | h | h | h | h | h | h | h
  · exact effc_0 w g m r hb hm i hi hp hr left hf h
  · exact effc_1 w g m r hb hm i hi hp hr left hf h
  · exact effc_128 w g m r hb hm i hi hp hr left hf h
  · exact effc_129 w g m r hb hm i hi hp hr left hf h
  · exact effc_7 w g m r hb hm i hi hp hr left hf h
  · exact effc_135 w g m r hb hm i hi hp hr left hf h
  · exact effc_132 w g m r hb hm i hi hp hr left hf h
  · exact effc_4 w g m r hb hm i hi hp hr left hf h
  · exact effc_20 w g m r hb hm i hi hp hr left hf h
  · exact effc_36 w g m r hb hm i hi hp hr left hf h
  · exact effc_68 w g m r hb hm i hi hp hr left hf h
  · exact effc_84 w g m r hb hm i hi hp hr left hf h
  · exact effc_164 w g m r hb hm i hi hp hr left hf h
  · exact effc_12 w g m r hb hm i hi hp hr left hf h
  · exact effc_28 w g m r hb hm i hi hp hr left hf h
  · exact effc_44 w g m r hb hm i hi hp hr left hf h
  · exact effc_60 w g m r hb hm i hi hp hr left hf h
  · exact effc_156 w g m r hb hm i hi hp hr left hf h
  · exact effc_76 w g m r hb hm i hi hp hr left hf h
  · exact effc_92 w g m r hb hm i hi hp hr left hf h
  · exact effc_172 w g m r hb hm i hi hp hr left hf h
  · exact effc_108 w g m r hb hm i hi hp hr left hf h
  · exact effc_124 w g m r hb hm i hi hp hr left hf h
  · exact effc_21 w g m r hb hm i hi hp hr left hf h
  · exact effc_37 w g m r hb hm i hi hp hr left hf h
  · exact effc_53 w g m r hb hm i hi hp hr left hf h
  · exact effc_69 w g m r hb hm i hi hp hr left hf h
  · exact effc_29 w g m r hb hm i hi hp hr left hf h
  · exact effc_45 w g m r hb hm i hi hp hr left hf h
  · exact effc_61 w g m r hb hm i hi hp hr left hf h
  · exact effc_77 w g m r hb hm i hi hp hr left hf h
  · exact effc_5 w g m r hb hm i hi hp hr left hf h
  · exact effc_32 w g m r hb hm i hi hp hr left hf h
  · exact effc_96 w g m r hb hm i hi hp hr left hf h
  · exact effc_97 w g m r hb hm i hi hp hr left hf h
  · exact effc_2 w g m r hb hm i hi hp hr left hf h
  · exact effc_3 w g m r hb hm i hi hp hr left hf h
  · exact effc_52 w g m r hb hm i hi hp hr left hf h
  · exact effc_148 w g m r hb hm i hi hp hr left hf h
  · exact effc_100 w g m r hb hm i hi hp hr left hf h
  · exact effc_116 w g m r hb hm i hi hp hr left hf h
  · exact effc_6 w g m r hb hm i hi hp hr left hf h
  · exact effc_22 w g m r hb hm i hi hp hr left hf h
#print axioms eff_any
end Go.Proofs.YtjgcfffepkmojaaGreat
