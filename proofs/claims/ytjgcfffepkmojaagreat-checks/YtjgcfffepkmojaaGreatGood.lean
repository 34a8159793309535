import Derived.Test.YtjgcfffepkmojaaGreatStill
import Derived.Laws.BitsAllLaws
/-
  The checker's flow, as plain mathematics: sets of cells as numbers, a pass over all instructions, what a second pass finds. No Go here.
-/
namespace Go.Proofs.YtjgcfffepkmojaaGreat.Flow

/-- What is known of an instruction (none: no way leads to it), and one way more. -/
def jn (o : Option Nat) (w : Nat) : Option Nat := match o with
  | none => some w
  | some a => some (a &&& w)
/-- A way to each of these. -/
def feed (st : Nat → Option Nat) (w : Nat) : List Nat → (Nat → Option Nat)
  | [] => st
  | j :: r => feed (fun x => if x = j then jn (st j) w else st x) w r

section
variable (sc : Nat → List Nat) (ou : Nat → Nat → Nat)
/-- One instruction: what is known of it goes on to those behind it. -/
def stp (st : Nat → Option Nat) (i : Nat) : Nat → Option Nat := match st i with
  | none => st
  | some S => feed st (ou i S) (sc i)
/-- The first k instructions. -/
def pass : Nat → (Nat → Option Nat)
  | 0 => fun x => if x = 0 then some 0 else none
  | k + 1 => stp sc ou (pass k) k
end

/-- What is known only shrinks. -/
def Sub (a b : Option Nat) : Prop := match a, b with
  | none, _ => True
  | some _, none => False
  | some a, some b => b &&& a = b
theorem Sub.refl (a : Option Nat) : Sub a a := by cases a <;> simp [Sub]
theorem Sub.trans {a b c : Option Nat} (h : Sub a b) (k : Sub b c) : Sub a c := by
  cases a with
  | none => trivial
  | some a =>
    cases b with
    | none => exact h.elim
    | some b =>
      cases c with
      | none => exact k.elim
      | some c =>
        simp only [Sub] at h k ⊢
        rw [← k, Nat.and_assoc, h]
theorem sub_jn (o : Option Nat) (w : Nat) : Sub o (jn o w) := by
  cases o with
  | none => trivial
  | some a => simp only [Sub, jn]; rw [Nat.and_comm (a &&& w) a, ← Nat.and_assoc, Nat.and_self]
theorem jn_sub (o : Option Nat) (w : Nat) : Sub (some w) (jn o w) := by
  cases o with
  | none => simp [Sub, jn]
  | some a => simp only [Sub, jn]; rw [Nat.and_assoc, Nat.and_self]

theorem feed_sub (st : Nat → Option Nat) (w : Nat) (l : List Nat) (x : Nat) : Sub (st x) (feed st w l x) := by
  induction l generalizing st with
  | nil => exact Sub.refl _
  | cons j r ih =>
    refine Sub.trans ?_ (ih _)
    by_cases h : x = j
    · subst h; simp only [if_true]; exact sub_jn _ _
    · simp only [if_neg h]; exact Sub.refl _
theorem feed_at (st : Nat → Option Nat) (w : Nat) (l : List Nat) (x : Nat) (h : x ∈ l) : Sub (some w) (feed st w l x) := by
  induction l generalizing st with
  | nil => cases h
  | cons j r ih =>
    by_cases hx : x ∈ r
    · exact ih _ hx
    · have hj : x = j := by
        rcases List.mem_cons.1 h with e | e
        · exact e
        · exact absurd e hx
      subst hj
      refine Sub.trans ?_ (feed_sub _ w r x)
      simp only [if_true]; exact jn_sub _ _
theorem feed_off (st : Nat → Option Nat) (w : Nat) (l : List Nat) (x : Nat) (h : x ∉ l) : feed st w l x = st x := by
  induction l generalizing st with
  | nil => rfl
  | cons j r ih =>
    rw [feed, ih _ (fun e => h (List.mem_cons_of_mem _ e)), if_neg (fun e => h (by rw [e]; exact List.mem_cons_self ..))]
theorem feed_id (st : Nat → Option Nat) (w : Nat) (l : List Nat) (h : ∀ j ∈ l, ∃ T, st j = some T ∧ T &&& w = T) : feed st w l = st := by
  induction l with
  | nil => rfl
  | cons j r ih =>
    obtain ⟨T, h1, h2⟩ := h j (List.mem_cons_self ..)
    have e : (fun x => if x = j then jn (st j) w else st x) = st := by
      funext x
      by_cases hx : x = j
      · subst hx; simp only [if_true, h1, jn, h2]
      · simp only [if_neg hx]
    rw [feed, e]
    exact ih (fun k hk => h k (List.mem_cons_of_mem _ hk))

section
variable {sc : Nat → List Nat} {ou : Nat → Nat → Nat}
theorem stp_none {st : Nat → Option Nat} {i : Nat} (h : st i = none) : stp sc ou st i = st := by unfold stp; rw [h]
theorem stp_some {st : Nat → Option Nat} {i S : Nat} (h : st i = some S) : stp sc ou st i = feed st (ou i S) (sc i) := by unfold stp; rw [h]
theorem stp_sub (st : Nat → Option Nat) (i x : Nat) : Sub (st x) (stp sc ou st i x) := by
  cases h : st i with
  | none => rw [stp_none h]; exact Sub.refl _
  | some S => rw [stp_some h]; exact feed_sub _ _ _ _
theorem pass_sub (a b x : Nat) (h : a ≤ b) : Sub (pass sc ou a x) (pass sc ou b x) := by
  induction b with
  | zero => have : a = 0 := by omega
            subst this; exact Sub.refl _
  | succ b ih =>
    rcases Nat.lt_or_ge b a with h1 | h1
    · have : a = b + 1 := by omega
      subst this; exact Sub.refl _
    · exact Sub.trans (ih h1) (stp_sub _ _ _)
/-- All ways go on: so an instruction's own turn finds all that leads to it. -/
theorem pass_done (hf : ∀ i, ∀ j ∈ sc i, i < j) (x k : Nat) (h : x ≤ k) : pass sc ou k x = pass sc ou x x := by
  induction k with
  | zero => have : x = 0 := by omega
            subst this; rfl
  | succ k ih =>
    rcases Nat.lt_or_ge k x with h1 | h1
    · have : x = k + 1 := by omega
      subst this; rfl
    · rw [← ih h1]
      show stp sc ou (pass sc ou k) k x = _
      cases hk : pass sc ou k k with
      | none => rw [stp_none hk]
      | some S => rw [stp_some hk]; exact feed_off _ _ _ _ (fun e => by have := hf k x e; omega)
/-- Behind the pass all that is known of an instruction has gone on. -/
theorem pass_stable (hf : ∀ i, ∀ j ∈ sc i, i < j) (n i : Nat) (hi : i < n) (S : Nat) (hS : pass sc ou n i = some S) : ∀ j ∈ sc i, ∃ T, pass sc ou n j = some T ∧ T &&& ou i S = T := by
  intro j hj
  have h1 : pass sc ou i i = some S := by rw [← pass_done hf i n (by omega)]; exact hS
  have h2 : Sub (some (ou i S)) (pass sc ou (i + 1) j) := by
    show Sub _ (stp sc ou (pass sc ou i) i j)
    rw [stp_some h1]
    exact feed_at _ _ _ _ hj
  have h3 := Sub.trans h2 (pass_sub (i + 1) n j (by omega))
  cases h4 : pass sc ou n j with
  | none => rw [h4] at h3; exact h3.elim
  | some T => rw [h4] at h3; exact ⟨T, rfl, h3⟩
theorem pass_again (hf : ∀ i, ∀ j ∈ sc i, i < j) (n i : Nat) (hi : i < n) : stp sc ou (pass sc ou n) i = pass sc ou n := by
  cases hS : pass sc ou n i with
  | none => exact stp_none hS
  | some S => rw [stp_some hS]; exact feed_id _ _ _ (pass_stable hf n i hi S hS)
/-- No way leads out of what there is. -/
theorem pass_in (n : Nat) (hn : 0 < n) (hin : ∀ i, i < n → ∀ j ∈ sc i, j < n) (k x : Nat) (hk : k ≤ n) (hx : n ≤ x) : pass sc ou k x = none := by
  induction k with
  | zero => simp only [pass]; rw [if_neg (by omega)]
  | succ k ih =>
    show stp sc ou (pass sc ou k) k x = none
    cases hk' : pass sc ou k k with
    | none => rw [stp_none hk']; exact ih (by omega)
    | some S => rw [stp_some hk', feed_off _ _ _ _ (fun e => by have := hin k (by omega) x e; omega)]; exact ih (by omega)
end
#print axioms pass_again
end Go.Proofs.YtjgcfffepkmojaaGreat.Flow

namespace Go.Proofs.YtjgcfffepkmojaaGreat
open Go.RowKit
set_option linter.unusedVariables false

def plainCodes : List Int := [0, 1, 128, 129, 7, 135, 132, 4, 20, 36, 68, 84, 164, 12, 28, 44, 60, 156, 76, 92, 172, 108, 124]
def testCodes : List Int := [21, 37, 53, 69, 29, 45, 61, 77]
/-- What kind of instruction a code is: 0 none, 1 plain, 2 jump, 3 test, 4 load of the record, 5 load of a cell, 6 store, 7 division by k, 8 shift by k, 9 end. -/
def knd (c : Int) : Int :=
  if c ∈ plainCodes then 1 else if c = 5 then 2 else if c ∈ testCodes then 3 else if c = 32 then 4 else if c = 96 ∨ c = 97 then 5 else if c = 2 ∨ c = 3 then 6 else if c = 52 ∨ c = 148 then 7 else if c = 100 ∨ c = 116 then 8 else if c = 6 ∨ c = 22 then 9 else 0

theorem ret_sb {s t : ByteArray} {a b : Bool} (h : s = t) (k : a = b) : Ending.returned (.tuple #[.string s, .bool a]) = .returned (.tuple #[.string t, .bool b]) := by rw [h, k]
theorem ret_b {a b : Bool} (h : a = b) : Ending.returned (.bool a) = .returned (.bool b) := by rw [h]
theorem ret_i {a b : Int} (h : a = b) : Ending.returned (.int .i64 a) = .returned (.int .i64 b) := by rw [h]
set_option maxRecDepth 100000 in
set_option maxHeartbeats 2000000 in
theorem kindOf_any (w : World) (c : Int) :
    Calls Tryz.prog 62 #[.int .u16 c] w fun e w' => e = .returned (.int .i64 (knd c)) ∧ w' = w := by
  go_enter Tryz.func62, Tryz.ntmps62
  go_wp2
  all_goals go_ret
  all_goals refine ⟨ret_i ?_, rfl⟩
  all_goals simp only [beq_iff_eq, beq_eq_false_iff_ne] at *
  all_goals first | (subst_vars; decide) | (simp [knd, plainCodes, testCodes, *])
theorem errorIf_any (w : World) (b : Bool) (n : Int) :
    Calls Tryz.prog 80 #[.bool b, .int .i64 n] w fun e w' => e = .returned (.int .i64 (if b then n else 0)) ∧ w' = w := by
  cases b
  · go_enter Tryz.func80, Tryz.ntmps80
    go_wp2
    go_ret
    exact ⟨rfl, rfl⟩
  · go_enter Tryz.func80, Tryz.ntmps80
    go_wp2
    go_ret
    exact ⟨rfl, rfl⟩

/-- What the reference calls an instruction. -/
def nameS (c : Int) : ByteArray :=
  if c = 0 then ⟨#[97, 61, 107]⟩ else if c = 1 then ⟨#[120, 61, 107]⟩ else if c = 32 then ⟨#[97, 61, 97, 116]⟩ else if c = 96 then ⟨#[97, 61, 99, 101, 108, 108]⟩ else if c = 97 then ⟨#[120, 61, 99, 101, 108, 108]⟩
  else if c = 128 then ⟨#[97, 61, 54, 52]⟩ else if c = 129 then ⟨#[120, 61, 54, 52]⟩ else if c = 2 then ⟨#[99, 101, 108, 108, 61, 97]⟩ else if c = 3 then ⟨#[99, 101, 108, 108, 61, 120]⟩ else if c = 7 then ⟨#[120, 61, 97]⟩ else if c = 135 then ⟨#[97, 61, 120]⟩
  else if c = 132 then ⟨#[110, 101, 103]⟩ else if c = 5 then ⟨#[106, 117, 109, 112]⟩ else if c = 6 then ⟨#[114, 101, 116, 107]⟩ else if c = 22 then ⟨#[114, 101, 116, 97]⟩
  else if bits .andNot .u16 c 8 = 4 then ⟨#[43]⟩ else if bits .andNot .u16 c 8 = 20 then ⟨#[45]⟩ else if bits .andNot .u16 c 8 = 36 then ⟨#[42]⟩ else if bits .andNot .u16 c 8 = 52 then ⟨#[47]⟩
  else if bits .andNot .u16 c 8 = 68 then ⟨#[111, 114]⟩ else if bits .andNot .u16 c 8 = 84 then ⟨#[97, 110, 100]⟩ else if bits .andNot .u16 c 8 = 100 then ⟨#[60, 60]⟩ else if bits .andNot .u16 c 8 = 116 then ⟨#[62, 62]⟩
  else if bits .andNot .u16 c 8 = 148 then ⟨#[37]⟩ else if bits .andNot .u16 c 8 = 164 then ⟨#[120, 111, 114]⟩ else if bits .andNot .u16 c 8 = 21 then ⟨#[105, 102, 61]⟩ else if bits .andNot .u16 c 8 = 37 then ⟨#[105, 102, 62]⟩
  else if bits .andNot .u16 c 8 = 53 then ⟨#[105, 102, 62, 61]⟩ else if bits .andNot .u16 c 8 = 69 then ⟨#[105, 102, 38]⟩ else ⟨#[]⟩
def firstCodes : List Int := [0, 1, 32, 96, 97, 128, 129, 2, 3, 7, 135, 132, 5, 6, 22]
def lowCodes : List Int := [4, 20, 36, 52, 68, 84, 100, 116, 148, 164, 21, 37, 53, 69]
def byxS (c : Int) : Bool := if c ∈ firstCodes then false else if bits .andNot .u16 c 8 ∈ lowCodes then (bits .and .u16 c 8 == 8) else false
set_option maxRecDepth 100000 in
set_option maxHeartbeats 2000000 in
theorem name_any (w : World) (c : Int) :
    Calls Tryz.prog 52 #[.int .u16 c] w fun e w' => e = .returned (.tuple #[.string (nameS c), .bool (byxS c)]) ∧ w' = w := by
  go_enter Tryz.func52, Tryz.ntmps52
  go_wp2
  all_goals go_ret2
  all_goals refine ⟨ret_sb ?_ ?_, rfl⟩
  all_goals simp only [beq_iff_eq, beq_eq_false_iff_ne] at *
  all_goals first | (simp [nameS, *]; done) | (simp [byxS, firstCodes, lowCodes, *]; done)

/-- 'tests', of a name. -/
def tstS (s : ByteArray) : Bool := s.toList == [105, 102, 61] || s.toList == [105, 102, 62] || s.toList == [105, 102, 62, 61] || s.toList == [105, 102, 38]
set_option maxRecDepth 100000 in
theorem tests_any (w : World) (s : ByteArray) :
    Calls Tryz.prog 64 #[.string s] w fun e w' => e = .returned (.bool (tstS s)) ∧ w' = w := by
  go_enter Tryz.func64, Tryz.ntmps64
  go_wp2
  all_goals go_ret
  all_goals refine ⟨ret_b ?_, rfl⟩
  all_goals first | rfl | (simp [tstS, *]; done)

end Go.Proofs.YtjgcfffepkmojaaGreat

namespace Go.Proofs.YtjgcfffepkmojaaGreat
open Go.RowKit
set_option linter.unusedVariables false

/-- What is wrong with an instruction that has so many others behind it. -/
def flt (x : Ins) (left : Int) : Int :=
  if knd x.code = 0 then 2 else if knd x.code = 2 then (if left ≤ x.k then 3 else 0) else if knd x.code = 3 then (if left ≤ x.jt ∨ left ≤ x.jf then 3 else 0)
  else if knd x.code = 4 then (if x.k % 4 ≠ 0 ∨ 64 ≤ x.k then 4 else 0) else if knd x.code = 5 ∨ knd x.code = 6 then (if 16 ≤ x.k then 5 else 0)
  else if knd x.code = 7 then (if x.k = 0 then 6 else 0) else if knd x.code = 8 then (if 32 ≤ x.k then 7 else 0) else 0
theorem knd_bd (c : Int) : 0 ≤ knd c ∧ knd c ≤ 9 := by
  unfold knd
  repeat' split
  all_goals omega
set_option maxRecDepth 100000 in
set_option maxHeartbeats 4000000 in
theorem fault_any (w : World) (i : Ins) (left : Int) (h0 : 0 ≤ left) (h1 : left ≤ 10000) (hi : i.ok) :
    Calls Tryz.prog 61 #[.agg #[.int .u16 i.code, .int .u8 i.jt, .int .u8 i.jf, .int .u32 i.k], .int .u32 left] w fun e w' => e = .returned (.int .i64 (flt i left)) ∧ Fr nob w w' := by
  obtain ⟨⟨p1, p2⟩, ⟨p3, p4⟩, ⟨p5, p6⟩, ⟨p7, p8⟩⟩ := hi
  obtain ⟨k, hk⟩ : ∃ k, k = knd i.code := ⟨_, rfl⟩
  have hbd := knd_bd i.code
  rw [← hk] at hbd
  have HK : Hid (k = knd i.code) := hk
  go_enter Tryz.func61, Tryz.ntmps61
  go_wp2_with fail
  refine (kindOf_any _ _).mono ?_
  rintro e w1 ⟨rfl, rfl⟩
  rw [← hk]
  clear hk
  go_wp2_with (go_at_call 80; refine (errorIf_any _ _ _).mono ?_; rintro e w' ⟨rfl, rfl⟩)
  all_goals go_ret
  all_goals refine ⟨ret_i ?_, (Fr.refl _ w).alloc _⟩
  all_goals (have ht := HK.out; rw [flt, ← ht]; clear ht HK)
  all_goals first | (simp_all; done) | (simp_all; omega)

theorem pow16 (c : Int) (h0 : 0 ≤ c) (h1 : c < 16) : (2 : Nat) ^ c.toNat < 65536 := by
  have : c.toNat < 16 := by omega
  exact Nat.pow_lt_pow_right (by decide) this
theorem pow16i (c : Int) : ((2 : Int) ^ c.toNat) = ((2 ^ c.toNat : Nat) : Int) := by simp
theorem or16 (S : Nat) (c : Int) (hS : S < 65536) (h0 : 0 ≤ c) (h1 : c < 16) : bits .or .u16 (S : Int) (2 ^ c.toNat) = ((S ||| 1 <<< c.toNat : Nat) : Int) := by
  rw [pow16i, u16_or_nat S (2 ^ c.toNat) hS (pow16 c h0 h1), Nat.shiftLeft_eq, Nat.one_mul]
theorem wrap16 (c : Int) (h0 : 0 ≤ c) (h1 : c < 16) : IntKind.u16.wrap (2 ^ c.toNat) = 2 ^ c.toNat := by
  have h := pow16 c h0 h1
  rw [pow16i, IntKind.wrap_u16]
  generalize 2 ^ c.toNat = p at h ⊢
  omega
theorem has16 (S : Nat) (c : Int) (hS : S < 65536) : (bits .and .u16 ((S : Int) / 2 ^ c.toNat) 1 == 1) = S.testBit c.toNat := by
  have hd : ((S : Int) / 2 ^ c.toNat) = ((S / 2 ^ c.toNat : Nat) : Int) := by rw [pow16i]; exact (Int.natCast_ediv _ _).symm
  have hlt : S / 2 ^ c.toNat < 65536 := Nat.lt_of_le_of_lt (Nat.div_le_self _ _) hS
  rw [hd, show (1 : Int) = ((1 : Nat) : Int) from rfl, u16_and_nat _ 1 hlt (by decide), Nat.and_one_is_mod, Nat.testBit_eq_decide_div_mod_eq]
  rcases Nat.mod_two_eq_zero_or_one (S / 2 ^ c.toNat) with h | h <;> simp [h]
theorem orLt (S : Nat) (c : Int) (hS : S < 65536) (h0 : 0 ≤ c) (h1 : c < 16) : S ||| 1 <<< c.toNat < 65536 := by
  rw [Nat.shiftLeft_eq, Nat.one_mul]
  exact Nat.or_lt_two_pow (n := 16) hS (pow16 c h0 h1)

set_option maxRecDepth 100000 in
theorem has_any (w : World) (S : Nat) (c : Int) (hS : S < 65536) (h0 : 0 ≤ c) (h1 : c < 16) :
    Calls Tryz.prog 82 #[.agg #[.bool true, .int .u16 S], .int .u32 c] w fun e w' => e = .returned (.bool (S.testBit c.toNat)) ∧ Fr nob w w' := by
  have hh := has16 S c hS
  have HH : Hid ((bits .and .u16 ((S : Int) / 2 ^ c.toNat) 1 == 1) = S.testBit c.toNat) := hh
  clear hh
  go_enter Tryz.func82, Tryz.ntmps82
  go_wp2
  go_ret
  exact ⟨ret_b HH.out, (Fr.refl _ w).alloc _⟩
set_option maxRecDepth 100000 in
theorem with_any (w : World) (S : Nat) (c : Int) (hS : S < 65536) (h0 : 0 ≤ c) (h1 : c < 16) :
    Calls Tryz.prog 83 #[.agg #[.bool true, .int .u16 S], .int .u32 c] w fun e w' => e = .returned (.agg #[.bool true, .int .u16 ((S ||| 1 <<< c.toNat : Nat) : Int)]) ∧ Fr nob w w' := by
  have hw := wrap16 c h0 h1
  have ho := or16 S c hS h0 h1
  generalize S ||| 1 <<< c.toNat = T at ho ⊢
  go_enter Tryz.func83, Tryz.ntmps83
  go_wp2
  exact bodyPost_ret (v := .agg #[.bool true, .int .u16 T]) (by simp [results, Tryz.results83, go_sem]) rfl ⟨rfl, ((Fr.refl _ w).alloc _).alloc _⟩
set_option maxRecDepth 100000 in
theorem join_none (w : World) (S : Nat) :
    Calls Tryz.prog 81 #[.agg #[.bool false, .int .u16 0], .agg #[.bool true, .int .u16 S]] w fun e w' => e = .returned (.agg #[.bool true, .int .u16 S]) ∧ Fr nob w w' := by
  go_enter Tryz.func81, Tryz.ntmps81
  go_wp2
  exact bodyPost_ret (v := .agg #[.bool true, .int .u16 S]) (by simp [results, Tryz.results81, go_sem]) rfl ⟨rfl, (((Fr.refl _ w).alloc _).alloc _).alloc _⟩
set_option maxRecDepth 100000 in
theorem join_some (w : World) (R S : Nat) (hR : R < 65536) (hS : S < 65536) :
    Calls Tryz.prog 81 #[.agg #[.bool true, .int .u16 R], .agg #[.bool true, .int .u16 S]] w fun e w' => e = .returned (.agg #[.bool true, .int .u16 ((R &&& S : Nat) : Int)]) ∧ Fr nob w w' := by
  have ho := u16_and_nat R S hR hS
  generalize R &&& S = T at ho ⊢
  go_enter Tryz.func81, Tryz.ntmps81
  go_wp2
  exact bodyPost_ret (v := .agg #[.bool true, .int .u16 T]) (by simp [results, Tryz.results81, go_sem]) rfl ⟨rfl, (((Fr.refl _ w).alloc _).alloc _).alloc _⟩

/-- What is known of an instruction, as cells. -/
def kcs : Option Nat → List Value
  | none => [.bool false, .int .u16 0]
  | some S => [.bool true, .int .u16 S]
def kv (o : Option Nat) : Value := .agg (kcs o).toArray
theorem join_any (w : World) (o : Option Nat) (S : Nat) (hR : ∀ R, o = some R → R < 65536) (hS : S < 65536) :
    Calls Tryz.prog 81 #[kv o, .agg #[.bool true, .int .u16 S]] w fun e w' => e = .returned (kv (Flow.jn o S)) ∧ Fr nob w w' := by
  cases o with
  | none => exact join_none w S
  | some R => exact join_some w R S (hR R rfl) hS
#print axioms join_any
end Go.Proofs.YtjgcfffepkmojaaGreat

namespace Go.Proofs.YtjgcfffepkmojaaGreat
open Go.RowKit
set_option linter.unusedVariables false

def zI : Ins := ⟨0, 0, 0, 0⟩
def gI (l : List Ins) (i : Nat) : Ins := l.getD i zI
/-- Where an instruction may go on. -/
def sc (l : List Ins) (i : Nat) : List Nat :=
  if knd (gI l i).code = 9 then [] else if knd (gI l i).code = 2 then [i + 1 + (gI l i).k.toNat] else if knd (gI l i).code = 3 then [i + 1 + (gI l i).jt.toNat, i + 1 + (gI l i).jf.toNat] else [i + 1]
/-- The cells that are set behind it. -/
def ou (l : List Ins) (i S : Nat) : Nat := if knd (gI l i).code = 6 then S ||| 1 <<< (gI l i).k.toNat else S
abbrev pst (l : List Ins) (k : Nat) : Nat → Option Nat := Flow.pass (sc l) (ou l) k
/-- Nothing is wrong with the instructions one by one, and the last one ends. -/
structure Good (l : List Ins) : Prop where
  pos : 0 < l.length
  le : l.length ≤ 4096
  ok : ∀ x ∈ l, x.ok
  no : ∀ i, i < l.length → flt (gI l i) ((l.length : Int) - 1 - i) = 0
  last : knd (gI l (l.length - 1)).code = 9
theorem gI_eq (l : List Ins) (i : Nat) (h : i < l.length) : gI l i = l[i] := by simp [gI, List.getD, h]
theorem Good.gok {l : List Ins} (h : Good l) {i : Nat} (hi : i < l.length) : (gI l i).ok := by rw [gI_eq l i hi]; exact h.ok _ (List.getElem_mem hi)
theorem sc_fwd (l : List Ins) (i : Nat) : ∀ j ∈ sc l i, i < j := by
  intro j hj
  unfold sc at hj
  split at hj
  · cases hj
  · split at hj
    · simp at hj; omega
    · split at hj
      · simp at hj; omega
      · simp at hj; omega
theorem Good.cell {l : List Ins} (h : Good l) {i : Nat} (hi : i < l.length) (hk : knd (gI l i).code = 5 ∨ knd (gI l i).code = 6) : (gI l i).k < 16 := by
  have hn := h.no i hi
  unfold flt at hn
  rcases hk with hk | hk
  · rw [hk] at hn; simp at hn; omega
  · rw [hk] at hn; simp at hn; omega
theorem Good.jump {l : List Ins} (h : Good l) {i : Nat} (hi : i < l.length) (hk : knd (gI l i).code = 2) : (gI l i).k < (l.length : Int) - 1 - i := by
  have hn := h.no i hi
  unfold flt at hn
  rw [hk] at hn; simp at hn; omega
theorem Good.test {l : List Ins} (h : Good l) {i : Nat} (hi : i < l.length) (hk : knd (gI l i).code = 3) : (gI l i).jt < (l.length : Int) - 1 - i ∧ (gI l i).jf < (l.length : Int) - 1 - i := by
  have hn := h.no i hi
  unfold flt at hn
  rw [hk] at hn; simp at hn; omega
theorem Good.next {l : List Ins} (h : Good l) {i : Nat} (hi : i < l.length) (hk : knd (gI l i).code ≠ 9) : i + 1 < l.length := by
  rcases Nat.lt_or_ge (i + 1) l.length with h1 | h1
  · exact h1
  · have : i = l.length - 1 := by omega
    rw [this] at hk
    exact absurd h.last hk
theorem Good.sc_in {l : List Ins} (h : Good l) {i : Nat} (hi : i < l.length) : ∀ j ∈ sc l i, j < l.length := by
  intro j hj
  have ho := h.gok hi
  unfold sc at hj
  split at hj
  · cases hj
  · rename_i h9
    split at hj
    · rename_i h2
      have := h.jump hi h2
      have := ho.2.2.2
      simp at hj; omega
    · split at hj
      · rename_i h3
        have := h.test hi h3
        have := ho.2.1
        have := ho.2.2.1
        simp at hj; omega
      · have := h.next hi h9
        simp at hj; omega
theorem jn_lt {o : Option Nat} {w T : Nat} (ho : ∀ R, o = some R → R < 65536) (hw : w < 65536) (h : Flow.jn o w = some T) : T < 65536 := by
  cases o with
  | none => simp [Flow.jn] at h; omega
  | some R => simp only [Flow.jn, Option.some.injEq] at h; rw [← h]; exact Nat.lt_of_le_of_lt Nat.and_le_left (ho R rfl)
theorem feed_lt {st : Nat → Option Nat} {w : Nat} {r : List Nat} (hst : ∀ x R, st x = some R → R < 65536) (hw : w < 65536) : ∀ x R, Flow.feed st w r x = some R → R < 65536 := by
  induction r generalizing st with
  | nil => exact hst
  | cons j r ih =>
    refine ih (st := fun x => if x = j then Flow.jn (st j) w else st x) (fun x R hx => ?_)
    by_cases e : x = j
    · simp only [e, if_true] at hx; exact jn_lt (fun R hR => hst j R hR) hw hx
    · simp only [if_neg e] at hx; exact hst x R hx
theorem Good.ou_lt {l : List Ins} (h : Good l) {i S : Nat} (hi : i < l.length) (hS : S < 65536) : ou l i S < 65536 := by
  unfold ou
  split
  · rename_i h6
    exact orLt S _ hS (h.gok hi).2.2.2.1 (h.cell hi (.inr h6))
  · exact hS
theorem Good.lt {l : List Ins} (h : Good l) (k : Nat) (hk : k ≤ l.length) : ∀ x R, pst l k x = some R → R < 65536 := by
  induction k with
  | zero => intro x R hx; simp only [pst, Flow.pass] at hx; split at hx <;> simp at hx; omega
  | succ k ih =>
    intro x R hx
    have ih' := ih (by omega)
    have hx' : Flow.stp (sc l) (ou l) (pst l k) k x = some R := hx
    cases hs : pst l k k with
    | none => rw [Flow.stp_none hs] at hx'; exact ih' x R hx'
    | some S => rw [Flow.stp_some hs] at hx'; exact feed_lt ih' (h.ou_lt (by omega) (ih' k S hs)) x R hx'

/-- A load that finds its cell unset. -/
def bad (l : List Ins) (i : Nat) : Bool := match pst l i i with
  | none => false
  | some S => decide (knd (gI l i).code = 5) && !(S.testBit (gI l i).k.toNat)
def uns (l : List Ins) : Int × Int := match (List.range l.length).find? (bad l) with
  | some i => (9, (i : Int))
  | none => (0, 0)
theorem find_first (p : Nat → Bool) (n i : Nat) (hi : i < n) (hp : p i = true) (hb : ∀ j, j < i → p j = false) : (List.range n).find? p = some i := by
  rw [List.find?_eq_some_iff_append]
  refine ⟨hp, List.range i, (List.range (n - i - 1)).map (fun x => i + 1 + x), ?_, ?_⟩
  · rw [show n = i + (1 + (n - i - 1)) by omega, List.range_add, List.range_add]
    simp [Function.comp_def, Nat.add_assoc]
  · intro a ha
    have := hb a (List.mem_range.1 ha)
    simp [this]
theorem find_none (p : Nat → Bool) (n : Nat) (hb : ∀ j, j < n → p j = false) : (List.range n).find? p = none := by
  rw [List.find?_eq_none]
  intro x hx
  rw [hb x (List.mem_range.1 hx)]; simp

/-- What is known of n instructions, as cells. -/
def kr (st : Nat → Option Nat) : Nat → List Value
  | 0 => []
  | n + 1 => kr st n ++ kcs (st n)
theorem kcs_len (o : Option Nat) : (kcs o).length = 2 := by cases o <;> rfl
theorem kr_len (st : Nat → Option Nat) (n : Nat) : (kr st n).length = n * 2 := by
  induction n with
  | zero => rfl
  | succ n ih => simp [kr, ih, kcs_len]; omega
theorem kr_get (st : Nat → Option Nat) (n x j : Nat) (hx : x < n) (hj : j < 2) : (kr st n)[x * 2 + j]? = (kcs (st x))[j]? := by
  induction n with
  | zero => omega
  | succ n ih =>
    have hl := kr_len st n
    rw [kr]
    by_cases h : x < n
    · rw [List.getElem?_append_left (by omega)]; exact ih h
    · have : x = n := by omega
      subst this
      rw [List.getElem?_append_right (by omega), hl, Nat.add_sub_cancel_left]
theorem kr_set (st : Nat → Option Nat) (n x : Nat) (v : Option Nat) (a b : Value) (hx : x < n) (hv : kcs v = [a, b]) : ((kr st n).set (x * 2) a).set (x * 2 + 1) b = kr (fun y => if y = x then v else st y) n := by
  apply List.ext_getElem?
  intro j
  by_cases hj : j < n * 2
  · have h1 := kr_get st n (j / 2) (j % 2) (by omega) (Nat.mod_lt _ (by decide))
    have h2 := kr_get (fun y => if y = x then v else st y) n (j / 2) (j % 2) (by omega) (Nat.mod_lt _ (by decide))
    rw [show j / 2 * 2 + j % 2 = j by omega] at h1 h2
    rw [h2, List.getElem?_set, List.getElem?_set]
    by_cases e1 : x * 2 + 1 = j
    · rw [if_pos e1, if_pos (by simp [kr_len]; omega)]
      rw [if_pos (by omega), show j % 2 = 1 by omega, hv]; rfl
    · rw [if_neg e1]
      by_cases e0 : x * 2 = j
      · rw [if_pos e0, if_pos (by simp [kr_len]; omega)]
        rw [if_pos (by omega), show j % 2 = 0 by omega, hv]; rfl
      · rw [if_neg e0, if_neg (by omega)]; exact h1
  · rw [List.getElem?_eq_none (by simp [kr_len]; omega), List.getElem?_eq_none (by rw [kr_len]; omega)]
theorem kr_none (n : Nat) : kr (fun _ => none) n = rep [.bool false, .int .u16 0] n := by
  induction n with
  | zero => rfl
  | succ n ih => rw [kr, rep, ih]; rfl
#print axioms kr_set
end Go.Proofs.YtjgcfffepkmojaaGreat
