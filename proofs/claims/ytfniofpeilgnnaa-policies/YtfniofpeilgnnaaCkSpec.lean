import Derived.Test.YtfniofpeilgnnaaLists
import Derived.Test.YtfniofpeilgnnaaPass
import Derived.Laws.BitsAllLaws
namespace Go.Proofs.Ytfniofpeilgnnaa
open Go.RowKit
set_option linter.unusedVariables false

def plainCodes : List Int := [0, 1, 128, 129, 7, 135, 132, 4, 20, 36, 68, 84, 164, 12, 28, 44, 60, 156, 76, 92, 172, 108, 124]
def testCodes : List Int := [21, 37, 53, 69, 29, 45, 61, 77]
/-- What kind of instruction a code is: 0 none, 1 plain, 2 jump, 3 test, 4 load of the record, 5 load of a cell, 6 store, 7 division by k, 8 shift by k, 9 end. -/
def knd (c : Int) : Int :=
  if c ∈ plainCodes then 1 else if c = 5 then 2 else if c ∈ testCodes then 3 else if c = 32 then 4 else if c = 96 ∨ c = 97 then 5 else if c = 2 ∨ c = 3 then 6 else if c = 52 ∨ c = 148 then 7 else if c = 100 ∨ c = 116 then 8 else if c = 6 ∨ c = 22 then 9 else 0

theorem ret_sb {s t : ByteArray} {a b : Bool} (h : s = t) (k : a = b) : Ending.returned (.tuple #[.string s, .bool a]) = .returned (.tuple #[.string t, .bool b]) := by rw [h, k]
theorem ret_b {a b : Bool} (h : a = b) : Ending.returned (.bool a) = .returned (.bool b) := by rw [h]
theorem ret_i {a b : Int} (h : a = b) : Ending.returned (.int .i64 a) = .returned (.int .i64 b) := by rw [h]
set_option maxRecDepth 100000 in
set_option maxHeartbeats 2000000 in
theorem kindOf_any (w : World) (c : Int) :
    Calls Try.prog 20 #[.int .u16 c] w fun e w' => e = .returned (.int .i64 (knd c)) ∧ w' = w := by
  go_enter Try.func20, Try.ntmps20
  go_wp2
  all_goals go_ret
  all_goals refine ⟨ret_i ?_, rfl⟩
  all_goals simp only [beq_iff_eq, beq_eq_false_iff_ne] at *
  all_goals first | (subst_vars; decide) | (simp [knd, plainCodes, testCodes, *])
theorem errorIf_any (w : World) (b : Bool) (n : Int) :
    Calls Try.prog 30 #[.bool b, .int .i64 n] w fun e w' => e = .returned (.int .i64 (if b then n else 0)) ∧ w' = w := by
  cases b
  · go_enter Try.func30, Try.ntmps30
    go_wp2
    go_ret
    exact ⟨rfl, rfl⟩
  · go_enter Try.func30, Try.ntmps30
    go_wp2
    go_ret
    exact ⟨rfl, rfl⟩

/-- What the reference calls an instruction. -/
def nameS (c : Int) : ByteArray :=
  if c = 0 then ⟨#[97, 61, 107]⟩ else if c = 1 then ⟨#[120, 61, 107]⟩ else if c = 32 then ⟨#[97, 61, 97, 116]⟩ else if c = 96 then ⟨#[97, 61, 99, 101, 108, 108]⟩ else if c = 97 then ⟨#[120, 61, 99, 101, 108, 108]⟩
  else if c = 128 then ⟨#[97, 61, 54, 52]⟩ else if c = 129 then ⟨#[120, 61, 54, 52]⟩ else if c = 2 then ⟨#[99, 101, 108, 108, 61, 97]⟩ else if c = 3 then ⟨#[99, 101, 108, 108, 61, 120]⟩ else if c = 7 then ⟨#[120, 61, 97]⟩ else if c = 135 then ⟨#[97, 61, 120]⟩
  else if c = 132 then ⟨#[110, 101, 103]⟩ else if c = 5 then ⟨#[106, 117, 109, 112]⟩ else if c = 6 then ⟨#[114, 101, 116, 107]⟩ else if c = 22 then ⟨#[114, 101, 116, 97]⟩
  else if bits .andNot .u16 c 8 = 4 then ⟨#[43]⟩ else if bits .andNot .u16 c 8 = 20 then ⟨#[45]⟩ else if bits .andNot .u16 c 8 = 36 then ⟨#[42]⟩ else if bits .andNot .u16 c 8 = 52 then ⟨#[47]⟩
  else if bits .andNot .u16 c 8 = 68 then ⟨#[111, 114]⟩ else if bits .andNot .u16 c 8 = 84 then ⟨#[97, 110, 100]⟩ else if bits .andNot .u16 c 8 = 100 then ⟨#[60, 60]⟩ else if bits .andNot .u16 c 8 = 116 then ⟨#[62, 62]⟩
  else if bits .andNot .u16 c 8 = 148 then ⟨#[37]⟩ else if bits .andNot .u16 c 8 = 164 then ⟨#[120, 111, 114]⟩ else if bits .andNot .u16 c 8 = 21 then ⟨#[105, 102, 61]⟩ else if bits .andNot .u16 c 8 = 37 then ⟨#[105, 102, 62]⟩
  else if bits .andNot .u16 c 8 = 53 then ⟨#[105, 102, 62, 61]⟩ else if bits .andNot .u16 c 8 = 69 then ⟨#[105, 102, 38]⟩ else ⟨#[]⟩
def firstCodes : List Int := [0, 1, 32, 96, 97, 128, 129, 2, 3, 7, 135, 132, 5, 6, 22]
def lowCodes : List Int := [4, 20, 36, 52, 68, 84, 100, 116, 148, 164, 21, 37, 53, 69]
def byxS (c : Int) : Bool := if c ∈ firstCodes then false else if bits .andNot .u16 c 8 ∈ lowCodes then (bits .and .u16 c 8 == 8) else false
/-- 'tests', of a name. -/
def tstS (s : ByteArray) : Bool := s.toList == [105, 102, 61] || s.toList == [105, 102, 62] || s.toList == [105, 102, 62, 61] || s.toList == [105, 102, 38]
end Go.Proofs.Ytfniofpeilgnnaa
