import Derived.Test.YtfniofpeilgnnaaCkSpec
namespace Go.Proofs.Ytfniofpeilgnnaa
open Go.RowKit
set_option linter.unusedVariables false

/-- What is wrong with an instruction that has so many others behind it. -/
def flt (x : Ins) (left : Int) : Int :=
  if knd x.code = 0 then 2 else if knd x.code = 2 then (if left ≤ x.k then 3 else 0) else if knd x.code = 3 then (if left ≤ x.jt ∨ left ≤ x.jf then 3 else 0)
  else if knd x.code = 4 then (if x.k % 4 ≠ 0 ∨ 64 ≤ x.k then 4 else 0) else if knd x.code = 5 ∨ knd x.code = 6 then (if 16 ≤ x.k then 5 else 0)
  else if knd x.code = 7 then (if x.k = 0 then 6 else 0) else if knd x.code = 8 then (if 32 ≤ x.k then 7 else 0) else 0
theorem knd_bd (c : Int) : 0 ≤ knd c ∧ knd c ≤ 9 := by
  unfold knd
  repeat' split
  all_goals omega
set_option maxRecDepth 100000 in
set_option maxHeartbeats 4000000 in
theorem fault_any (w : World) (i : Ins) (left : Int) (h0 : 0 ≤ left) (h1 : left ≤ 10000) (hi : i.ok) :
    Calls Try.prog 19 #[.agg #[.int .u16 i.code, .int .u8 i.jt, .int .u8 i.jf, .int .u32 i.k], .int .u32 left] w fun e w' => e = .returned (.int .i64 (flt i left)) ∧ Fr nob w w' := by
  obtain ⟨⟨p1, p2⟩, ⟨p3, p4⟩, ⟨p5, p6⟩, ⟨p7, p8⟩⟩ := hi
  obtain ⟨k, hk⟩ : ∃ k, k = knd i.code := ⟨_, rfl⟩
  have hbd := knd_bd i.code
  rw [← hk] at hbd
  have HK : Hid (k = knd i.code) := hk
  go_enter Try.func19, Try.ntmps19
  go_wp2_with fail
  refine (kindOf_any _ _).mono ?_
  rintro e w1 ⟨rfl, rfl⟩
  rw [← hk]
  clear hk
  go_wp2_with (go_at_call 30; refine (errorIf_any _ _ _).mono ?_; rintro e w' ⟨rfl, rfl⟩)
  all_goals go_ret
  all_goals refine ⟨ret_i ?_, (Fr.refl _ w).alloc _⟩
  all_goals (have ht := HK.out; rw [flt, ← ht]; clear ht HK)
  all_goals first | (simp_all; done) | (simp_all; omega)

theorem pow16 (c : Int) (h0 : 0 ≤ c) (h1 : c < 16) : (2 : Nat) ^ c.toNat < 65536 := by
  have : c.toNat < 16 := by omega
  exact Nat.pow_lt_pow_right (by decide) this
theorem pow16i (c : Int) : ((2 : Int) ^ c.toNat) = ((2 ^ c.toNat : Nat) : Int) := by simp
theorem or16 (S : Nat) (c : Int) (hS : S < 65536) (h0 : 0 ≤ c) (h1 : c < 16) : bits .or .u16 (S : Int) (2 ^ c.toNat) = ((S ||| 1 <<< c.toNat : Nat) : Int) := by
  rw [pow16i, u16_or_nat S (2 ^ c.toNat) hS (pow16 c h0 h1), Nat.shiftLeft_eq, Nat.one_mul]
theorem wrap16 (c : Int) (h0 : 0 ≤ c) (h1 : c < 16) : IntKind.u16.wrap (2 ^ c.toNat) = 2 ^ c.toNat := by
  have h := pow16 c h0 h1
  rw [pow16i, IntKind.wrap_u16]
  generalize 2 ^ c.toNat = p at h ⊢
  omega
theorem has16 (S : Nat) (c : Int) (hS : S < 65536) : (bits .and .u16 ((S : Int) / 2 ^ c.toNat) 1 == 1) = S.testBit c.toNat := by
  have hd : ((S : Int) / 2 ^ c.toNat) = ((S / 2 ^ c.toNat : Nat) : Int) := by rw [pow16i]; exact (Int.natCast_ediv _ _).symm
  have hlt : S / 2 ^ c.toNat < 65536 := Nat.lt_of_le_of_lt (Nat.div_le_self _ _) hS
  rw [hd, show (1 : Int) = ((1 : Nat) : Int) from rfl, u16_and_nat _ 1 hlt (by decide), Nat.and_one_is_mod, Nat.testBit_eq_decide_div_mod_eq]
  rcases Nat.mod_two_eq_zero_or_one (S / 2 ^ c.toNat) with h | h <;> simp [h]
theorem orLt (S : Nat) (c : Int) (hS : S < 65536) (h0 : 0 ≤ c) (h1 : c < 16) : S ||| 1 <<< c.toNat < 65536 := by
  rw [Nat.shiftLeft_eq, Nat.one_mul]
  exact Nat.or_lt_two_pow (n := 16) hS (pow16 c h0 h1)

set_option maxRecDepth 100000 in
theorem has_any (w : World) (S : Nat) (c : Int) (hS : S < 65536) (h0 : 0 ≤ c) (h1 : c < 16) :
    Calls Try.prog 32 #[.agg #[.bool true, .int .u16 S], .int .u32 c] w fun e w' => e = .returned (.bool (S.testBit c.toNat)) ∧ Fr nob w w' := by
  have hh := has16 S c hS
  have HH : Hid ((bits .and .u16 ((S : Int) / 2 ^ c.toNat) 1 == 1) = S.testBit c.toNat) := hh
  clear hh
  go_enter Try.func32, Try.ntmps32
  go_wp2
  go_ret
  exact ⟨ret_b HH.out, (Fr.refl _ w).alloc _⟩
set_option maxRecDepth 100000 in
theorem with_any (w : World) (S : Nat) (c : Int) (hS : S < 65536) (h0 : 0 ≤ c) (h1 : c < 16) :
    Calls Try.prog 33 #[.agg #[.bool true, .int .u16 S], .int .u32 c] w fun e w' => e = .returned (.agg #[.bool true, .int .u16 ((S ||| 1 <<< c.toNat : Nat) : Int)]) ∧ Fr nob w w' := by
  have hw := wrap16 c h0 h1
  have ho := or16 S c hS h0 h1
  generalize S ||| 1 <<< c.toNat = T at ho ⊢
  go_enter Try.func33, Try.ntmps33
  go_wp2
  exact bodyPost_ret (v := .agg #[.bool true, .int .u16 T]) (by simp [results, Try.results33, go_sem]) rfl ⟨rfl, ((Fr.refl _ w).alloc _).alloc _⟩
set_option maxRecDepth 100000 in
theorem join_none (w : World) (S : Nat) :
    Calls Try.prog 31 #[.agg #[.bool false, .int .u16 0], .agg #[.bool true, .int .u16 S]] w fun e w' => e = .returned (.agg #[.bool true, .int .u16 S]) ∧ Fr nob w w' := by
  go_enter Try.func31, Try.ntmps31
  go_wp2
  exact bodyPost_ret (v := .agg #[.bool true, .int .u16 S]) (by simp [results, Try.results31, go_sem]) rfl ⟨rfl, (((Fr.refl _ w).alloc _).alloc _).alloc _⟩
set_option maxRecDepth 100000 in
theorem join_some (w : World) (R S : Nat) (hR : R < 65536) (hS : S < 65536) :
    Calls Try.prog 31 #[.agg #[.bool true, .int .u16 R], .agg #[.bool true, .int .u16 S]] w fun e w' => e = .returned (.agg #[.bool true, .int .u16 ((R &&& S : Nat) : Int)]) ∧ Fr nob w w' := by
  have ho := u16_and_nat R S hR hS
  generalize R &&& S = T at ho ⊢
  go_enter Try.func31, Try.ntmps31
  go_wp2
  exact bodyPost_ret (v := .agg #[.bool true, .int .u16 T]) (by simp [results, Try.results31, go_sem]) rfl ⟨rfl, (((Fr.refl _ w).alloc _).alloc _).alloc _⟩

/-- What is known of an instruction, as cells. -/
def kcs : Option Nat → List Value
  | none => [.bool false, .int .u16 0]
  | some S => [.bool true, .int .u16 S]
def kv (o : Option Nat) : Value := .agg (kcs o).toArray
theorem join_any (w : World) (o : Option Nat) (S : Nat) (hR : ∀ R, o = some R → R < 65536) (hS : S < 65536) :
    Calls Try.prog 31 #[kv o, .agg #[.bool true, .int .u16 S]] w fun e w' => e = .returned (kv (Flow.jn o S)) ∧ Fr nob w w' := by
  cases o with
  | none => exact join_none w S
  | some R => exact join_some w R S (hR R rfl) hS
#print axioms join_any
end Go.Proofs.Ytfniofpeilgnnaa
