import Derived.Test.YtjgcfffepkmojabGreatCWalk
import Derived.Test.YtjgcfffepkmojabGreatRAsk
import Derived.Test.YtjgcfffepkmojabGreatSmall
import Derived.Laws.BitsAllLaws
import Derived.Laws.Bits64b
namespace Go.Proofs.YtjgcfffepkmojabGreat
open Go.RowKit
set_option linter.unusedVariables false

/-! ### What instructions do, from a place on -/
/-- The verdict, from a place on, with so much in A; n: how many steps at most. -/
def evF (r : ByteArray) : Nat → List Ins → Int → Option Int
  | 0, _, _ => none
  | _ + 1, [], _ => none
  | n + 1, x :: l, a => if x.code = 6 then some x.k else if x.code = 32 then evF r n l (wd r x.k.toNat) else if x.code = 84 then evF r n l (bits .and .u32 a x.k)
    else if x.code = 21 ∨ x.code = 37 ∨ x.code = 53 then evF r n (l.drop (if tst x.code a x.k then x.jt else x.jf).toNat) a else none
def Ev (r : ByteArray) (l : List Ins) (a v : Int) : Prop := ∃ n, evF r n l a = some v
theorem Ev.ret {r : ByteArray} (k : Int) (l : List Ins) (a : Int) : Ev r (vd k :: l) a k := ⟨1, rfl⟩
theorem Ev.lod {r : ByteArray} (k : Int) (l : List Ins) (a v : Int) (h : Ev r l (wd r k.toNat) v) : Ev r (ld k :: l) a v := by
  obtain ⟨n, h⟩ := h
  exact ⟨n + 1, h⟩
theorem Ev.and {r : ByteArray} (k : Int) (l : List Ins) (a v : Int) (h : Ev r l (bits .and .u32 a k) v) : Ev r (an k :: l) a v := by
  obtain ⟨n, h⟩ := h
  exact ⟨n + 1, h⟩
theorem Ev.bra {r : ByteArray} (c k : Int) (y n : Nat) (l : List Ins) (a v : Int) (hc : c = 21 ∨ c = 37 ∨ c = 53) (h : Ev r (l.drop (if tst c a k then y else n)) a v) : Ev r (br c k y n :: l) a v := by
  obtain ⟨m, h⟩ := h
  refine ⟨m + 1, ?_⟩
  have e : ((if tst c a k then (y : Int) else (n : Int))).toNat = if tst c a k then y else n := by split <;> rfl
  show (if c = 6 then some k else if c = 32 then evF r m l (wd r k.toNat) else if c = 84 then evF r m l (bits .and .u32 a k) else if c = 21 ∨ c = 37 ∨ c = 53 then evF r m (l.drop (if tst c a k then (y : Int) else (n : Int)).toNat) a else none) = some v
  rw [if_neg (by omega), if_neg (by omega), if_neg (by omega), if_pos hc, e]
  exact h
theorem Ev.ne {r : ByteArray} {l : List Ins} {a v : Int} (h : Ev r l a v) : l ≠ [] := by
  obtain ⟨n, h⟩ := h
  intro e
  subst e
  cases n <;> cases h
theorem Ev.after {r : ByteArray} {m : List Ins} {a v : Int} (h : Ev r (ld 0 :: m) a v) : Ev r m (wd r 0) v := by
  obtain ⟨n, h⟩ := h
  cases n with
  | zero => cases h
  | succ n => exact ⟨n, h⟩
theorem gI_mid (pre l : List Ins) (x : Ins) : gI (pre ++ x :: l) pre.length = x := by simp [gI, List.getD]
theorem stp_br (x : Ins) (r : ByteArray) (m : Mc) (hc : x.code = 21 ∨ x.code = 37 ∨ x.code = 53) : stp x r m = { m with pc := m.pc + 1 + (if tst x.code m.a x.k then x.jt else x.jf).toNat } := by
  obtain ⟨c, j, f, k⟩ := x
  simp only at hc
  rcases hc with rfl | rfl | rfl
  all_goals simp [stp, alu, low, xb, xCodes]
theorem stp_an (x : Ins) (r : ByteArray) (m : Mc) (hc : x.code = 84) : stp x r m = { m with pc := m.pc + 1, a := bits .and .u32 m.a x.k } := by
  simp [stp, alu, low, xb, xCodes, hc]
theorem ev_run {P : List Ins} {r : ByteArray} {v : Int} (f : Nat) : ∀ (suf : List Ins) (a : Int), evF r f suf a = some v → ∀ (n : Nat) (x : Int) (c : Nat → Int) (v0 : Int) (pre : List Ins), P = pre ++ suf → stN P r n = ⟨a, x, c, pre.length, false, v0⟩ → (∀ j, j ≤ n → (stN P r j).e = false) → n ≤ pre.length → ver P r = v := by
  induction f with
  | zero => intro suf a h; cases h
  | succ f ih =>
    intro suf a h n x c v0 pre hP hs hb hn
    match suf, h, hP with
    | [], h, _ => cases h
    | i :: l, h, hP =>
      have step : stN P r (n + 1) = stp i r ⟨a, x, c, pre.length, false, v0⟩ := by
        show stp (gI P (stN P r n).pc) r (stN P r n) = _
        rw [hs, hP, gI_mid]
      have more : ∀ (a' : Int) (d : Nat), d < l.length → stN P r (n + 1) = ⟨a', x, c, pre.length + 1 + d, false, v0⟩ → evF r f (l.drop d) a' = some v → ver P r = v := fun a' d hd h1 h2 => by
        have hl : (pre ++ i :: l.take d).length = pre.length + 1 + d := by
          rw [List.length_append, List.length_cons, List.length_take]
          omega
        refine ih (l.drop d) a' h2 (n + 1) x c v0 (pre ++ i :: l.take d) (by rw [hP]; simp) (by rw [hl]; exact h1) (fun j hj => ?_) (by rw [hl]; omega)
        rcases Nat.lt_or_ge j (n + 1) with h3 | h3
        · exact hb j (by omega)
        · rw [show j = n + 1 by omega, h1]
      have some_lt : ∀ (d : Nat) (a' : Int), evF r f (l.drop d) a' = some v → d < l.length := fun d a' h2 => by
        have := Ev.ne ⟨f, h2⟩
        rw [ne_eq, List.drop_eq_nil_iff] at this
        omega
      simp only [evF] at h
      by_cases h6 : i.code = 6
      · rw [if_pos h6] at h
        have hv : i.k = v := by simpa using h
        have h1 : stN P r (n + 1) = ⟨a, x, c, pre.length + 1, true, v⟩ := by rw [step]; simp [stp, h6, hv]
        exact ver_of (n + 1) (by rw [hP, List.length_append, List.length_cons]; omega) h1 rfl (fun j hj => hb j (by omega))
      rw [if_neg h6] at h
      by_cases h32 : i.code = 32
      · rw [if_pos h32] at h
        exact more _ 0 (some_lt 0 _ h) (by rw [step]; simp [stp, h32]) h
      rw [if_neg h32] at h
      by_cases h84 : i.code = 84
      · rw [if_pos h84] at h
        exact more _ 0 (some_lt 0 _ h) (by rw [step, stp_an _ _ _ h84]) h
      rw [if_neg h84] at h
      by_cases hc : i.code = 21 ∨ i.code = 37 ∨ i.code = 53
      · rw [if_pos hc] at h
        exact more _ _ (some_lt _ _ h) (by rw [step, stp_br _ _ _ hc]) h
      · rw [if_neg hc] at h
        cases h
theorem ev_ver {P : List Ins} {r : ByteArray} {a v : Int} (h : Ev r P a v) (ha : a = 0) : ver P r = v := by
  obtain ⟨f, h⟩ := h
  subst ha
  exact ev_run f P 0 h 0 0 (fun _ => 0) 0 [] rfl rfl (fun j hj => by rw [Nat.le_zero.1 hj]; rfl) (Nat.le_refl _)

/-! ### What is made does what the policy says -/
/-- The word that is compared. -/
def Hlf.w (h : Hlf) (r : ByteArray) : Int := if h.m = 4294967295 then wd r h.p.toNat else bits .and .u32 (wd r h.p.toNat) h.m
theorem ev_hlf {r : ByteArray} (h : Hlf) {l : List Ins} {v : Int} (a : Int) (he : Ev r l (h.w r) v) : Ev r (h.ld ++ l) a v := by
  unfold Hlf.ld
  unfold Hlf.w at he
  split
  · rename_i hm
    rw [if_pos hm] at he
    exact .lod _ _ _ _ he
  · rename_i hm
    rw [if_neg hm] at he
    exact .lod _ _ _ _ (.and _ _ _ _ he)
theorem drop_add {α : Type} (p l : List α) (n : Nat) : (p ++ l).drop (p.length + n) = l.drop n := by
  rw [List.drop_append, List.drop_eq_nil_iff.2 (by omega), List.nil_append]
  congr 1
  omega
/-- Does a compare say yes? -/
def yes (t : Tst) (c : Int) (r : ByteArray) : Bool := if t.up.w r = t.up.v then tst c (t.lo.w r) t.lo.v else (!(c == 21) && decide (t.up.v < t.up.w r))
theorem ev_cmp {r : ByteArray} (t : Tst) (c : Int) (hc : c = 21 ∨ c = 37 ∨ c = 53) (y n : Nat) {l : List Ins} {v : Int} (h1 : yes t c r = true → ∀ a, Ev r (l.drop y) a v) (h0 : yes t c r = false → ∀ a, Ev r (l.drop n) a v) (a : Int) : Ev r (cmp4 t c y n ++ l) a v := by
  unfold cmp4
  rw [List.append_assoc]
  refine ev_hlf _ _ ?_
  have lower : ∀ a, t.up.w r = t.up.v → Ev r (cmp1 t c y n ++ l) a v := fun a he => by
    unfold cmp1
    rw [List.append_assoc]
    refine ev_hlf _ _ (.bra _ _ _ _ _ _ _ hc ?_)
    have hy : yes t c r = tst c (t.lo.w r) t.lo.v := by unfold yes; rw [if_pos he]
    cases hb : tst c (t.lo.w r) t.lo.v with
    | true => exact h1 (hy.trans hb) _
    | false => exact h0 (hy.trans hb) _
  have mid : ∀ a, a = t.up.w r → (t.up.w r ≠ t.up.v → yes t c r = false) → Ev r (cmp2 t c y n ++ l) a v := fun a ha hno => by
    unfold cmp2
    refine .bra _ _ _ _ _ _ _ (.inl rfl) ?_
    by_cases he : t.up.w r = t.up.v
    · rw [show tst 21 a t.up.v = true by subst ha; simp [tst, he]]
      exact lower _ he
    · rw [show tst 21 a t.up.v = false by subst ha; simp [tst, he]]
      show Ev r ((cmp1 t c y n ++ l).drop ((cmp1 t c y n).length + n)) a v
      rw [drop_add]
      exact h0 (hno he) _
  unfold cmp3
  by_cases h21 : c = 21
  · rw [if_pos h21]
    exact mid _ rfl (fun he => by unfold yes; rw [if_neg he, h21]; rfl)
  · rw [if_neg h21]
    refine .bra _ _ _ _ _ _ _ (.inr (.inl rfl)) ?_
    have h21b : (c == 21) = false := by rw [beq_eq_false_iff_ne]; exact h21
    by_cases hg : t.up.v < t.up.w r
    · rw [show tst 37 (t.up.w r) t.up.v = true by simp [tst, hg]]
      show Ev r ((br 21 t.up.v 0 ((cmp1 t c y n).length + n) :: cmp1 t c y n ++ l).drop ((cmp1 t c y n).length + 1 + y)) _ v
      have : (br 21 t.up.v 0 ((cmp1 t c y n).length + n) :: cmp1 t c y n).length = (cmp1 t c y n).length + 1 := rfl
      rw [← this, drop_add]
      exact h1 (by unfold yes; rw [if_neg (by omega), h21b]; simp [hg]) _
    · rw [show tst 37 (t.up.w r) t.up.v = false by simp [tst]; omega]
      exact mid _ rfl (fun he => by unfold yes; rw [if_neg he, h21b]; simp; omega)

/-! ### 64 bits in two words -/
theorem and_parts (a b m : Nat) (ha : a < 4294967296) : (a + b * 4294967296) &&& m = (a &&& m % 4294967296) + (b &&& m / 4294967296) * 4294967296 := by
  have hlt : a &&& m % 4294967296 < 2 ^ 32 := Nat.lt_of_le_of_lt Nat.and_le_left (by omega)
  have e1 : a + b * 4294967296 = 2 ^ 32 * b + a := by omega
  have e2 : (a &&& m % 4294967296) + (b &&& m / 4294967296) * 4294967296 = 2 ^ 32 * (b &&& m / 2 ^ 32) + (a &&& m % 2 ^ 32) := by
    rw [show (4294967296 : Nat) = 2 ^ 32 by decide, Nat.mul_comm, Nat.add_comm]
  rw [e1, e2]
  apply Nat.eq_of_testBit_eq
  intro i
  rw [Nat.testBit_and, Nat.testBit_two_pow_mul_add _ (by omega), Nat.testBit_two_pow_mul_add _ (by simpa using hlt)]
  by_cases hi : i < 32
  · rw [if_pos hi, if_pos hi, Nat.testBit_and, Nat.testBit_mod_two_pow]
    simp [hi]
  · rw [if_neg hi, if_neg hi, Nat.testBit_and, Nat.testBit_div_two_pow, Nat.sub_add_cancel (by omega)]
theorem and_all (a : Int) (h0 : 0 ≤ a) (h1 : a < 4294967296) : bits .and .u32 a 4294967295 = a := by
  rw [u32_and a 4294967295 h0 h1 (by decide) (by decide)]
  have : a.toNat &&& (4294967295 : Int).toNat = a.toNat := by
    show a.toNat &&& 4294967295 = a.toNat
    rw [show (4294967295 : Nat) = 2 ^ 32 - 1 by decide, Nat.and_two_pow_sub_one_eq_mod]
    omega
  rw [this]
  omega
theorem Hlf.w_and (h : Hlf) (r : ByteArray) : h.w r = bits .and .u32 (wd r h.p.toNat) h.m := by
  unfold Hlf.w
  split
  · rename_i hm
    rw [hm, and_all _ (wd_bd r _).1 (wd_bd r _).2]
  · rfl
theorem up_p (t : Tst) (h : 0 ≤ t.arg) : t.up.p.toNat = 16 + 8 * t.arg.toNat + 4 := by
  show (16 + 8 * t.arg + 4).toNat = _
  omega
theorem lo_p (t : Tst) (h : 0 ≤ t.arg) : t.lo.p.toNat = 16 + 8 * t.arg.toNat := by
  show (16 + 8 * t.arg).toNat = _
  omega
theorem up_w (t : Tst) (r : ByteArray) (h : 0 ≤ t.arg) (h6 : t.how ≠ 6) : t.up.w r = wd r (16 + 8 * t.arg.toNat + 4) := by
  unfold Hlf.w
  rw [if_pos (by show t.msk / 4294967296 = 4294967295; unfold Tst.msk; rw [if_neg h6]; decide), up_p t h]
theorem lo_w (t : Tst) (r : ByteArray) (h : 0 ≤ t.arg) (h6 : t.how ≠ 6) : t.lo.w r = wd r (16 + 8 * t.arg.toNat) := by
  unfold Hlf.w
  rw [if_pos (by show t.msk % 4294967296 = 4294967295; unfold Tst.msk; rw [if_neg h6]; decide), lo_p t h]
theorem yes_eq (t : Tst) (r : ByteArray) (hr : t.rng) (h : 0 ≤ t.arg) (h6 : t.how ≠ 6) : yes t 21 r = decide (arg64 r t.arg.toNat = t.value) ∧ yes t 37 r = decide (t.value < arg64 r t.arg.toNat) ∧ yes t 53 r = decide (t.value ≤ arg64 r t.arg.toNat) := by
  have hv := hr.2.2.1
  have h1 := wd_bd r (16 + 8 * t.arg.toNat)
  have h2 := wd_bd r (16 + 8 * t.arg.toNat + 4)
  unfold yes arg64
  rw [up_w t r h h6, lo_w t r h h6, show t.up.v = t.value / 4294967296 from rfl, show t.lo.v = t.value % 4294967296 from rfl]
  generalize wd r (16 + 8 * t.arg.toNat) = L at *
  generalize wd r (16 + 8 * t.arg.toNat + 4) = U at *
  generalize t.value = V at *
  have hv1 := hv.1
  have hv2 := hv.2
  refine ⟨?_, ?_, ?_⟩
  · by_cases he : U = V / 4294967296
    · rw [if_pos he]
      simp only [tst, if_true]
      by_cases hl : L = V % 4294967296
      · rw [decide_eq_true (by omega), hl]; simp
      · rw [decide_eq_false (by omega)]; simpa using hl
    · rw [if_neg he, decide_eq_false (show ¬ L + U * 4294967296 = V by omega)]
      simp
  · by_cases he : U = V / 4294967296
    · rw [if_pos he]
      simp only [tst]
      by_cases hl : V % 4294967296 < L
      · rw [decide_eq_true (show V < L + U * 4294967296 by omega)]; simpa using hl
      · rw [decide_eq_false (show ¬ V < L + U * 4294967296 by omega)]; simp; omega
    · rw [if_neg he]
      by_cases hl : V / 4294967296 < U
      · rw [decide_eq_true hl, decide_eq_true (show V < L + U * 4294967296 by omega)]; rfl
      · rw [decide_eq_false hl, decide_eq_false (show ¬ V < L + U * 4294967296 by omega)]; rfl
  · by_cases he : U = V / 4294967296
    · rw [if_pos he]
      simp only [tst]
      by_cases hl : V % 4294967296 ≤ L
      · rw [decide_eq_true (show V ≤ L + U * 4294967296 by omega)]; simpa using hl
      · rw [decide_eq_false (show ¬ V ≤ L + U * 4294967296 by omega)]; simp; omega
    · rw [if_neg he]
      by_cases hl : V / 4294967296 < U
      · rw [decide_eq_true hl, decide_eq_true (show V ≤ L + U * 4294967296 by omega)]; rfl
      · rw [decide_eq_false hl, decide_eq_false (show ¬ V ≤ L + U * 4294967296 by omega)]; rfl
theorem yes_mask (t : Tst) (r : ByteArray) (hr : t.rng) (h : 0 ≤ t.arg) (h6 : t.how = 6) : yes t 21 r = (bits .and .u64 (arg64 r t.arg.toNat) t.mask == t.value) := by
  have hv := hr.2.2.1
  have hk := hr.2.2.2
  have h1 := wd_bd r (16 + 8 * t.arg.toNat)
  have h2 := wd_bd r (16 + 8 * t.arg.toNat + 4)
  have hmk : t.msk = t.mask := by unfold Tst.msk; rw [if_pos h6]
  unfold yes arg64
  rw [Hlf.w_and, Hlf.w_and, up_p t h, lo_p t h, show t.up.v = t.value / 4294967296 from rfl, show t.lo.v = t.value % 4294967296 from rfl, show t.up.m = t.msk / 4294967296 from rfl, show t.lo.m = t.msk % 4294967296 from rfl, hmk]
  generalize wd r (16 + 8 * t.arg.toNat) = L at *
  generalize wd r (16 + 8 * t.arg.toNat + 4) = U at *
  generalize t.value = V at *
  generalize t.mask = M at *
  obtain ⟨a, rfl⟩ := Int.eq_ofNat_of_zero_le h1.1
  obtain ⟨b, rfl⟩ := Int.eq_ofNat_of_zero_le h2.1
  obtain ⟨m, rfl⟩ := Int.eq_ofNat_of_zero_le hk.1
  obtain ⟨v, rfl⟩ := Int.eq_ofNat_of_zero_le hv.1
  have ha : a < 4294967296 := by omega
  have hb : b < 4294967296 := by omega
  have hm : m < 18446744073709551616 := by have := hk.2; omega
  have e1 : ((a : Int) + (b : Int) * 4294967296) = ((a + b * 4294967296 : Nat) : Int) := by omega
  have e2 : bits .and .u32 (a : Int) ((m : Int) % 4294967296) = ((a &&& m % 4294967296 : Nat) : Int) := by
    rw [show (m : Int) % 4294967296 = ((m % 4294967296 : Nat) : Int) by omega]
    exact u32_and_nat a (m % 4294967296) ha (Nat.mod_lt _ (by decide))
  have e3 : bits .and .u32 (b : Int) ((m : Int) / 4294967296) = ((b &&& m / 4294967296 : Nat) : Int) := by
    rw [show (m : Int) / 4294967296 = ((m / 4294967296 : Nat) : Int) by omega]
    exact u32_and_nat b (m / 4294967296) hb (by omega)
  rw [e1, bits_and_u64_nat _ _ (by omega) hm, and_parts a b m ha, e2, e3]
  have q1 : a &&& m % 4294967296 < 4294967296 := Nat.lt_of_le_of_lt Nat.and_le_left ha
  have q2 : b &&& m / 4294967296 < 4294967296 := Nat.lt_of_le_of_lt Nat.and_le_left hb
  generalize a &&& m % 4294967296 = x at *
  generalize b &&& m / 4294967296 = z at *
  by_cases he : (z : Int) = (v : Int) / 4294967296
  · rw [if_pos he]
    simp only [tst, if_true]
    by_cases hl : (x : Int) = (v : Int) % 4294967296
    · rw [hl, show ((x + z * 4294967296 : Nat) : Int) = (v : Int) by omega]; simp
    · rw [show ((x : Int) == (v : Int) % 4294967296) = false by rw [beq_eq_false_iff_ne]; exact hl, show (((x + z * 4294967296 : Nat) : Int) == (v : Int)) = false by rw [beq_eq_false_iff_ne]; omega]
  · rw [if_neg he, show (((x + z * 4294967296 : Nat) : Int) == (v : Int)) = false by rw [beq_eq_false_iff_ne]; omega]
    simp
theorem test_ev {r : ByteArray} (t : Tst) (hr : t.rng) (hm : (0 ≤ t.arg ∧ t.arg ≤ 5) ∧ (0 ≤ t.how ∧ t.how ≤ 6)) (o : Nat) {l : List Ins} {v : Int} (h1 : hldR r t = true → ∀ a, Ev r l a v) (h0 : hldR r t = false → ∀ a, Ev r (l.drop o) a v) (a : Int) : Ev r (coT t o ++ l) a v := by
  have hc : t.how = 0 ∨ t.how = 1 ∨ t.how = 2 ∨ t.how = 3 ∨ t.how = 4 ∨ t.how = 5 ∨ t.how = 6 := by omega
  have hA : ∀ c y n, coT t o = cmp4 t c y n → (c = 21 ∨ c = 37 ∨ c = 53) → (y = 0 ∧ n = o ∧ hldR r t = yes t c r) ∨ (y = o ∧ n = 0 ∧ hldR r t = !(yes t c r)) → Ev r (coT t o ++ l) a v := fun c y n e1 e2 e3 => by
    rw [e1]
    rcases e3 with ⟨rfl, rfl, e⟩ | ⟨rfl, rfl, e⟩
    · exact ev_cmp t c e2 0 n (fun h => h1 (e.trans h)) (fun h => h0 (e.trans h)) a
    · exact ev_cmp t c e2 y 0 (fun h => h0 (by rw [e, h]; rfl)) (fun h => h1 (by rw [e, h]; rfl)) a
  have hy := fun h6 => yes_eq t r hr hm.1.1 h6
  rcases hc with hc | hc | hc | hc | hc | hc | hc
  · refine hA 21 0 o (by unfold coT; rw [hc]; rfl) (.inl rfl) (.inl ⟨rfl, rfl, ?_⟩)
    rw [(hy (by omega)).1]
    rw [Bool.eq_iff_iff]
    simp [hldR, hldA, hc]
  · refine hA 21 o 0 (by unfold coT; rw [hc]; rfl) (.inl rfl) (.inr ⟨rfl, rfl, ?_⟩)
    rw [(hy (by omega)).1]
    rw [Bool.eq_iff_iff]
    simp [hldR, hldA, hc]
  · refine hA 53 o 0 (by unfold coT; rw [hc]; rfl) (.inr (.inr rfl)) (.inr ⟨rfl, rfl, ?_⟩)
    rw [(hy (by omega)).2.2]
    rw [Bool.eq_iff_iff]
    simp [hldR, hldA, hc]
  · refine hA 37 o 0 (by unfold coT; rw [hc]; rfl) (.inr (.inl rfl)) (.inr ⟨rfl, rfl, ?_⟩)
    rw [(hy (by omega)).2.1]
    rw [Bool.eq_iff_iff]
    simp [hldR, hldA, hc]
  · refine hA 37 0 o (by unfold coT; rw [hc]; rfl) (.inr (.inl rfl)) (.inl ⟨rfl, rfl, ?_⟩)
    rw [(hy (by omega)).2.1]
    rw [Bool.eq_iff_iff]
    simp [hldR, hldA, hc]
  · refine hA 53 0 o (by unfold coT; rw [hc]; rfl) (.inr (.inr rfl)) (.inl ⟨rfl, rfl, ?_⟩)
    rw [(hy (by omega)).2.2]
    rw [Bool.eq_iff_iff]
    simp [hldR, hldA, hc]
  · refine hA 21 0 o (by unfold coT; rw [hc]; rfl) (.inl rfl) (.inl ⟨rfl, rfl, ?_⟩)
    rw [yes_mask t r hr hm.1.1 hc]
    rw [Bool.eq_iff_iff]
    simp [hldR, hldA, hc]
end Go.Proofs.YtjgcfffepkmojabGreat

namespace Go.Proofs.YtjgcfffepkmojabGreat
open Go.RowKit
set_option linter.unusedVariables false

/-! ### A policy, as instructions -/
def fitD (r : ByteArray) (x : RD) : Bool := (wd r 0 == x.1) && x.2.1.all (hldR r)
def askD (els : Int) (rs : List RD) (r : ByteArray) : Int := match rs.find? (fitD r) with | some x => x.2.2 | none => els
def okT (t : Tst) : Prop := t.rng ∧ ((0 ≤ t.arg ∧ t.arg ≤ 5) ∧ (0 ≤ t.how ∧ t.how ≤ 6))
def okR (x : RD) : Prop := U32 x.1 ∧ U32 x.2.2 ∧ x.2.1.length ≤ 6 ∧ ∀ t ∈ x.2.1, okT t
theorem tests_ev {r : ByteArray} (ts : List Tst) (hts : ∀ t ∈ ts, okT t) {l m : List Ins} {v1 v2 : Int} (h1 : ∀ a, Ev r (l ++ m) a v1) (h2 : ∀ a, Ev r m a v2) : ∀ a, Ev r (coTs ts l ++ m) a (if ts.all (hldR r) then v1 else v2) := by
  induction ts with
  | nil => exact h1
  | cons t ts ih =>
    intro a
    have ih := ih (fun t ht => hts t (List.mem_cons_of_mem _ ht))
    have ht := hts t (List.mem_cons_self ..)
    simp only [coTs, List.append_assoc]
    refine test_ev t ht.1 ht.2 _ (fun h a => ?_) (fun h a => ?_) a
    · rw [show (t :: ts).all (hldR r) = ts.all (hldR r) by rw [List.all_cons, h, Bool.true_and]]; exact ih a
    · rw [show (t :: ts).all (hldR r) = false by rw [List.all_cons, h, Bool.false_and], show (coTs ts l).length = (coTs ts l).length + 0 from rfl, drop_add]; exact h2 a
theorem rule_ev {r : ByteArray} (x : RD) (hx : okR x) {m : List Ins} {v2 : Int} (h2 : ∀ a, Ev r m a v2) : ∀ a, Ev r (coR x (m.headD zI) ++ m) a (if fitD r x then x.2.2 else v2) := by
  intro a
  refine .lod _ _ _ _ (.bra _ _ _ _ _ _ _ (.inl rfl) ?_)
  show Ev r (List.drop (if tst 21 (wd r 0) x.1 then 0 else _) (coTs x.2.1 [vd x.2.2] ++ m)) (wd r 0) _
  rw [show tst 21 (wd r 0) x.1 = (wd r 0 == x.1) from rfl]
  cases hn : wd r 0 == x.1 with
  | true =>
    have : fitD r x = x.2.1.all (hldR r) := by unfold fitD; rw [hn, Bool.true_and]
    rw [this]
    exact tests_ev x.2.1 hx.2.2.2 (l := [vd x.2.2]) (fun a => .ret _ _ _) h2 _
  | false =>
    have : fitD r x = false := by unfold fitD; rw [hn, Bool.false_and]
    rw [this]
    show Ev r (List.drop ((coTs x.2.1 [vd x.2.2]).length + (if isLd0 (m.headD zI) then 1 else 0)) (coTs x.2.1 [vd x.2.2] ++ m)) (wd r 0) v2
    rw [drop_add]
    cases hi : isLd0 (m.headD zI) with
    | false => exact h2 _
    | true =>
      match m, h2, hi with
      | [], h2, _ => exact absurd rfl (h2 0).ne
      | y :: m, h2, hi =>
        obtain ⟨c, j, f, k⟩ := y
        simp only [List.headD_cons, isLd0, Bool.and_eq_true, beq_iff_eq] at hi
        obtain ⟨⟨⟨rfl, rfl⟩, rfl⟩, rfl⟩ := hi
        exact Ev.after (h2 0)
theorem rules_ev {r : ByteArray} (els : Int) (rs : List RD) (h : ∀ x ∈ rs, okR x) : ∀ a, Ev r (coRs els rs) a (askD els rs r) := by
  induction rs with
  | nil => exact fun a => .ret _ _ _
  | cons x rs ih =>
    intro a
    have := rule_ev x (h x (List.mem_cons_self ..)) (ih (fun y hy => h y (List.mem_cons_of_mem _ hy))) a
    have he : askD els (x :: rs) r = if fitD r x then x.2.2 else askD els rs r := by
      unfold askD
      rw [List.find?_cons]
      cases fitD r x <;> rfl
    rw [he]
    exact this
theorem pol_ev {r : ByteArray} (arch els oth : Int) (rs : List RD) (h : ∀ x ∈ rs, okR x) (a : Int) : Ev r (coP arch els oth rs) a (if wd r 4 = arch then askD els rs r else oth) := by
  refine .lod _ _ _ _ (.bra _ _ _ _ _ _ _ (.inl rfl) ?_)
  show Ev r (List.drop (if tst 21 (wd r 4) arch then 1 else 0) (vd oth :: coRs els rs)) (wd r 4) _
  rw [show tst 21 (wd r 4) arch = (wd r 4 == arch) from rfl]
  by_cases hn : wd r 4 = arch
  · rw [if_pos hn, show (wd r 4 == arch) = true by rw [hn]; simp]
    exact rules_ev els rs h _
  · rw [if_neg hn, show (wd r 4 == arch) = false by rw [beq_eq_false_iff_ne]; exact hn]
    exact .ret _ _ _
theorem pol_ver (arch els oth : Int) (rs : List RD) (h : ∀ x ∈ rs, okR x) (r : ByteArray) : ver (coP arch els oth rs) r = if wd r 4 = arch then askD els rs r else oth :=
  ev_ver (pol_ev arch els oth rs h 0) rfl

/-! ### and Check takes them -/
def GL : List Ins → Prop
  | [] => True
  | x :: l => (x.ok ∧ flt x (l.length : Int) = 0 ∧ knd x.code ≠ 5) ∧ GL l
theorem GL.at {l : List Ins} (h : GL l) (i : Nat) (hi : i < l.length) : (gI l i).ok ∧ flt (gI l i) ((l.length : Int) - 1 - i) = 0 ∧ knd (gI l i).code ≠ 5 := by
  induction l generalizing i with
  | nil => simp at hi
  | cons x l ih =>
    cases i with
    | zero =>
      have e : gI (x :: l) 0 = x := by simp [gI, List.getD]
      rw [e, show ((x :: l).length : Int) - 1 - ((0 : Nat) : Int) = (l.length : Int) by rw [List.length_cons]; omega]
      exact h.1
    | succ i =>
      have e : gI (x :: l) (i + 1) = gI l i := by simp [gI, List.getD]
      rw [e, show ((x :: l).length : Int) - 1 - ((i + 1 : Nat) : Int) = (l.length : Int) - 1 - i by rw [List.length_cons]; omega]
      exact ih h.2 i (by simpa using hi)
theorem GL.fine {l : List Ins} (h : GL l) (h0 : 0 < l.length) (h1 : l.length ≤ 4096) (hk : knd (gI l (l.length - 1)).code = 9) : Fine l :=
  fine_nocell ⟨h0, h1, fun x hx => by
    obtain ⟨i, hi, rfl⟩ := List.getElem_of_mem hx
    rw [← gI_eq l i hi]
    exact (h.at i hi).1, fun i hi => (h.at i hi).2.1, hk⟩ (fun i hi => (h.at i hi).2.2)
theorem GL.ld {l : List Ins} (h : GL l) (k : Int) (h0 : 0 ≤ k) (h1 : k % 4 = 0) (h2 : k < 64) : GL (ld k :: l) := by
  refine ⟨⟨⟨⟨by show (0 : Int) ≤ 32; decide, by show (32 : Int) < 65536; decide⟩, ⟨by show (0 : Int) ≤ 0; decide, by show (0 : Int) < 256; decide⟩, ⟨by show (0 : Int) ≤ 0; decide, by show (0 : Int) < 256; decide⟩, h0, by show k < 4294967296; omega⟩, ?_, by show knd 32 ≠ 5; decide⟩, h⟩
  unfold flt
  rw [show knd (Go.Proofs.YtjgcfffepkmojabGreat.ld k).code = 4 from by show knd 32 = 4; decide]
  simp
  omega
theorem GL.an {l : List Ins} (h : GL l) (k : Int) (hk : U32 k) : GL (an k :: l) := by
  refine ⟨⟨⟨⟨by show (0 : Int) ≤ 84; decide, by show (84 : Int) < 65536; decide⟩, ⟨by show (0 : Int) ≤ 0; decide, by show (0 : Int) < 256; decide⟩, ⟨by show (0 : Int) ≤ 0; decide, by show (0 : Int) < 256; decide⟩, hk.1, hk.2⟩, ?_, by show knd 84 ≠ 5; decide⟩, h⟩
  unfold flt
  rw [show knd (Go.Proofs.YtjgcfffepkmojabGreat.an k).code = 1 from by show knd 84 = 1; decide]
  simp
theorem GL.vd {l : List Ins} (h : GL l) (k : Int) (hk : U32 k) : GL (vd k :: l) := by
  refine ⟨⟨⟨⟨by show (0 : Int) ≤ 6; decide, by show (6 : Int) < 65536; decide⟩, ⟨by show (0 : Int) ≤ 0; decide, by show (0 : Int) < 256; decide⟩, ⟨by show (0 : Int) ≤ 0; decide, by show (0 : Int) < 256; decide⟩, hk.1, hk.2⟩, ?_, by show knd 6 ≠ 5; decide⟩, h⟩
  unfold flt
  rw [show knd (Go.Proofs.YtjgcfffepkmojabGreat.vd k).code = 9 from by show knd 6 = 9; decide]
  simp
theorem GL.br {l : List Ins} (h : GL l) (c k : Int) (hc : c = 21 ∨ c = 37 ∨ c = 53) (hk : U32 k) (y n : Nat) (hy : y < l.length) (hn : n < l.length) (hy2 : y < 256) (hn2 : n < 256) : GL (br c k y n :: l) := by
  have hkn : knd c = 3 := by rcases hc with rfl | rfl | rfl <;> decide
  refine ⟨⟨⟨⟨by show 0 ≤ c; omega, by show c < 65536; omega⟩, ⟨by show (0 : Int) ≤ (y : Int); omega, by show (y : Int) < 256; omega⟩, ⟨by show (0 : Int) ≤ (n : Int); omega, by show (n : Int) < 256; omega⟩, hk.1, hk.2⟩, ?_, by show knd c ≠ 5; rw [hkn]; decide⟩, h⟩
  unfold flt
  rw [show knd (Go.Proofs.YtjgcfffepkmojabGreat.br c k y n).code = 3 from hkn]
  simp
  omega
/-- A half that may be. -/
def Hlf.fit (h : Hlf) : Prop := 0 ≤ h.p ∧ h.p % 4 = 0 ∧ h.p < 64 ∧ U32 h.m ∧ U32 h.v
theorem GL.hlf {l : List Ins} (h : GL l) (x : Hlf) (hx : x.fit) : GL (x.ld ++ l) := by
  unfold Hlf.ld
  split
  · exact h.ld _ hx.1 hx.2.1 hx.2.2.1
  · exact (h.an _ hx.2.2.2.1).ld _ hx.1 hx.2.1 hx.2.2.1
theorem halves_fit {t : Tst} (h : okT t) : t.up.fit ∧ t.lo.fit := by
  obtain ⟨⟨_, _, hv, hk⟩, ⟨h1, h2⟩, _⟩ := h
  have hm : 0 ≤ t.msk ∧ t.msk < 18446744073709551616 := by
    unfold Tst.msk
    split
    · exact ⟨hk.1, hk.2⟩
    · exact ⟨by decide, by decide⟩
  have hv1 := hv.1
  have hv2 := hv.2
  refine ⟨⟨?_, ?_, ?_, ⟨?_, ?_⟩, ⟨?_, ?_⟩⟩, ⟨?_, ?_, ?_, ⟨?_, ?_⟩, ⟨?_, ?_⟩⟩⟩
  all_goals simp only [Tst.up, Tst.lo]
  all_goals omega
theorem GL.cmp {l : List Ins} (h : GL l) {t : Tst} (ht : okT t) (c : Int) (hc : c = 21 ∨ c = 37 ∨ c = 53) (y n : Nat) (hy : y < l.length) (hn : n < l.length) (hy2 : y ≤ 200) (hn2 : n ≤ 200) : GL (cmp4 t c y n ++ l) := by
  obtain ⟨hu, ho⟩ := halves_fit ht
  have l1 := t.lo.ld_len
  have g1 : GL (cmp1 t c y n ++ l) := by
    unfold cmp1
    rw [List.append_assoc]
    exact GL.hlf (h.br c _ hc ho.2.2.2.2 y n hy hn (by omega) (by omega)) _ ho
  have n1 : (cmp1 t c y n).length = t.lo.ld.length + 1 := cmp1_len t c y n
  have g2 : GL (cmp2 t c y n ++ l) := by
    unfold cmp2
    exact g1.br 21 _ (.inl rfl) hu.2.2.2.2 0 _ (by rw [List.length_append]; omega) (by rw [List.length_append]; omega) (by omega) (by omega)
  unfold cmp4
  rw [List.append_assoc]
  refine GL.hlf ?_ _ hu
  unfold cmp3
  split
  · exact g2
  · exact g2.br 37 _ (.inr (.inl rfl)) hu.2.2.2.2 _ 0 (by rw [List.length_append]; simp only [cmp2, List.length_cons]; omega) (by rw [List.length_append]; omega) (by omega) (by omega)
theorem GL.tst {l : List Ins} (h : GL l) {t : Tst} (ht : okT t) (o : Nat) (ho : o < l.length) (ho2 : o ≤ 200) : GL (coT t o ++ l) := by
  have h0 : 0 < l.length := by omega
  unfold coT
  split
  · exact h.cmp ht 21 (.inl rfl) o 0 ho h0 ho2 (by omega)
  split
  · exact h.cmp ht 53 (.inr (.inr rfl)) o 0 ho h0 ho2 (by omega)
  split
  · exact h.cmp ht 37 (.inr (.inl rfl)) o 0 ho h0 ho2 (by omega)
  split
  · exact h.cmp ht 37 (.inr (.inl rfl)) 0 o h0 ho (by omega) ho2
  split
  · exact h.cmp ht 53 (.inr (.inr rfl)) 0 o h0 ho (by omega) ho2
  · exact h.cmp ht 21 (.inl rfl) 0 o h0 ho (by omega) ho2
theorem GL.tsts {l m : List Ins} (h : GL (l ++ m)) (hm : 0 < m.length) (ts : List Tst) (hts : ∀ t ∈ ts, okT t) (hl : l.length + 7 * ts.length ≤ 200) : GL (coTs ts l ++ m) := by
  induction ts with
  | nil => exact h
  | cons t ts ih =>
    have := ih (fun t ht => hts t (List.mem_cons_of_mem _ ht)) (by rw [List.length_cons] at hl; omega)
    have hlen := coTs_len ts l
    rw [List.length_cons] at hl
    simp only [coTs, List.append_assoc]
    exact this.tst (hts t (List.mem_cons_self ..)) _ (by rw [List.length_append]; omega) (by omega)
theorem GL.rul {m : List Ins} (h : GL m) (hm : 0 < m.length) (hi : isLd0 (m.headD zI) = true → 2 ≤ m.length) (x : RD) (hx : okR x) : GL (coR x (m.headD zI) ++ m) := by
  have g1 : GL (coTs x.2.1 [Go.Proofs.YtjgcfffepkmojabGreat.vd x.2.2] ++ m) := GL.tsts (l := [Go.Proofs.YtjgcfffepkmojabGreat.vd x.2.2]) (h.vd _ hx.2.1) hm x.2.1 hx.2.2.2 (by have := hx.2.2.1; simp; omega)
  have hlen := coTs_len x.2.1 [Go.Proofs.YtjgcfffepkmojabGreat.vd x.2.2]
  have h6 := hx.2.2.1
  simp only [List.length_cons, List.length_nil] at hlen
  refine GL.ld (GL.br g1 21 _ (.inl rfl) hx.1 0 _ (by rw [List.length_append]; omega) ?_ (by omega) ?_) 0 (by decide) (by decide) (by decide)
  · rw [List.length_append]
    split
    · rename_i h
      have := hi h
      omega
    · omega
  · split <;> omega
theorem coRs_end (els : Int) (rs : List RD) : ∃ p, coRs els rs = p ++ [vd els] := by
  induction rs with
  | nil => exact ⟨[], rfl⟩
  | cons x rs ih =>
    obtain ⟨p, hp⟩ := ih
    exact ⟨coR x ((coRs els rs).headD zI) ++ p, by rw [List.append_assoc, ← hp]; rfl⟩
theorem GL.ruls (els : Int) (he : U32 els) (rs : List RD) (h : ∀ x ∈ rs, okR x) : GL (coRs els rs) := by
  induction rs with
  | nil => exact GL.vd (l := []) trivial els he
  | cons x rs ih =>
    have h1 := coRs_len els rs (fun y hy => (h y (List.mem_cons_of_mem _ hy)).2.2.1)
    refine GL.rul (ih (fun y hy => h y (List.mem_cons_of_mem _ hy))) (by omega) (fun hi => ?_) x (h x (List.mem_cons_self ..))
    cases rs with
    | nil => simp [coRs, isLd0] at hi
    | cons y rs =>
      have := coR_len y ((coRs els rs).headD zI)
      simp only [coRs, List.length_append]
      omega
theorem pol_fine (arch els oth : Int) (rs : List RD) (h : ∀ x ∈ rs, okR x) (hl : rs.length ≤ 40) (ha : U32 arch) (he : U32 els) (ho : U32 oth) : Fine (coP arch els oth rs) := by
  have h1 := coRs_len els rs (fun y hy => (h y hy).2.2.1)
  have g := GL.ruls els he rs h
  have hlen : (coP arch els oth rs).length = 3 + (coRs els rs).length := by simp [coP]; omega
  refine GL.fine (GL.ld (GL.br (g.vd oth ho) 21 arch (.inl rfl) ha 1 0 (by rw [List.length_cons]; omega) (by rw [List.length_cons]; omega) (by decide) (by decide)) 4 (by decide) (by decide) (by decide)) (by omega) ?_ ?_
  · show (coP arch els oth rs).length ≤ 4096
    omega
  · show knd (gI (coP arch els oth rs) ((coP arch els oth rs).length - 1)).code = 9
    obtain ⟨p, hp⟩ := coRs_end els rs
    have e : coP arch els oth rs = (Go.Proofs.YtjgcfffepkmojabGreat.ld 4 :: Go.Proofs.YtjgcfffepkmojabGreat.br 21 arch 1 0 :: Go.Proofs.YtjgcfffepkmojabGreat.vd oth :: p) ++ [Go.Proofs.YtjgcfffepkmojabGreat.vd els] := by unfold coP; rw [hp]; rfl
    rw [e, List.length_append]
    show knd (gI (_ ++ [Go.Proofs.YtjgcfffepkmojabGreat.vd els]) (List.length _)).code = 9
    rw [gI_mid]
    show knd 6 = 9
    decide

/-! ### A policy as it is handed in -/
theorem mayA_eq (rs : List Rul) : mayA rs = mayS rs := rfl
theorem okR_of {rs : List Rul} (hm : mayS rs = true) (hf : ∀ x ∈ rs, U32 x.number ∧ U32 x.verdict ∧ ∀ t ∈ x.ts, t.rng) : rs.length ≤ 40 ∧ ∀ x ∈ rs.map rd, okR x := by
  unfold mayS at hm
  rw [Bool.and_eq_true, List.all_eq_true] at hm
  refine ⟨of_decide_eq_true hm.1, fun x hx => ?_⟩
  obtain ⟨y, hy, rfl⟩ := List.mem_map.1 hx
  have h := hm.2 y hy
  unfold Rul.mayB at h
  rw [Bool.and_eq_true, List.all_eq_true] at h
  obtain ⟨f1, f2, f3⟩ := hf y hy
  refine ⟨f1, f2, of_decide_eq_true h.1, fun t ht => ⟨f3 t ht, ?_⟩⟩
  have := (Tst.mayB_iff t).1 (h.2 t ht)
  exact this
theorem ask_d (arch els oth : Int) (rs : List Rul) (r : ByteArray) : (if wd r 4 = arch then askD els (rs.map rd) r else oth) = askS arch els oth rs r := by
  unfold askS askD
  rw [List.find?_map]
  have : (fitD r ∘ rd) = fitS r := rfl
  rw [this]
  cases rs.find? (fitS r) <;> rfl
theorem co_bad (arch els oth : Int) (rs : List Rul) (h : mayS rs = false) : co arch els oth (rs.map rd) = ([], 11) := by
  unfold co
  rw [mayA_d, mayA_eq, h]
  rfl
theorem co_good (arch els oth : Int) (rs : List Rul) (hf : ∀ x ∈ rs, U32 x.number ∧ U32 x.verdict ∧ ∀ t ∈ x.ts, t.rng) (ha : U32 arch) (he : U32 els) (ho : U32 oth) (h : mayS rs = true) :
    (co arch els oth (rs.map rd)).2 = 0 ∧ Fine (co arch els oth (rs.map rd)).1 ∧ ∀ r : ByteArray, ver (co arch els oth (rs.map rd)).1 r = askS arch els oth rs r := by
  have e : co arch els oth (rs.map rd) = (coP arch els oth (rs.map rd), 0) := by
    unfold co
    rw [mayA_d, mayA_eq, h]
    rfl
  rw [e]
  obtain ⟨h1, h2⟩ := okR_of h hf
  exact ⟨rfl, pol_fine arch els oth _ h2 (by rw [List.length_map]; exact h1) ha he ho, fun r => by rw [pol_ver arch els oth _ h2 r, ask_d]⟩
#print axioms co_good
end Go.Proofs.YtjgcfffepkmojabGreat
