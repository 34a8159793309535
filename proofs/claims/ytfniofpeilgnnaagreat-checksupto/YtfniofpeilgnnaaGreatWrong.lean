import Derived.Test.YtfniofpeilgnnaaGreatCkSpec
namespace Go.Proofs.YtfniofpeilgnnaaGreat
open Go.RowKit
set_option linter.unusedVariables false

/-- What the reference finds wrong with an instruction of that name. -/
def wrgS (s : ByteArray) (x t : Bool) (i : Ins) (left : Int) : Int :=
  if s.toList = [] then 2 else if s.toList = [106, 117, 109, 112] ∧ left ≤ i.k then 3 else if t = true ∧ (left ≤ i.jt ∨ left ≤ i.jf) then 3 else if s.toList = [97, 61, 97, 116] ∧ (i.k % 4 ≠ 0 ∨ 64 ≤ i.k) then 4
  else if (s.toList = [97, 61, 99, 101, 108, 108] ∨ s.toList = [120, 61, 99, 101, 108, 108] ∨ s.toList = [99, 101, 108, 108, 61, 97] ∨ s.toList = [99, 101, 108, 108, 61, 120]) ∧ 16 ≤ i.k then 5
  else if (s.toList = [47] ∨ s.toList = [37]) ∧ x = false ∧ i.k = 0 then 6 else if (s.toList = [60, 60] ∨ s.toList = [62, 62]) ∧ x = false ∧ 32 ≤ i.k then 7 else 0
set_option maxRecDepth 100000 in
set_option maxHeartbeats 4000000 in
theorem wrong_core (w : World) (i : Ins) (left : Int) (h0 : 0 ≤ left) (h1 : left ≤ 10000) (hi : i.ok) (s : ByteArray) (x t : Bool)
    (hn : Hid (∀ w, Calls Tryz.prog 50 #[.int .u16 i.code] w fun e w' => e = .returned (.tuple #[.string s, .bool x]) ∧ w' = w)) (ht : Hid (∀ w, Calls Tryz.prog 60 #[.string s] w fun e w' => e = .returned (.bool t) ∧ w' = w)) :
    Calls Tryz.prog 49 #[.agg #[.int .u16 i.code, .int .u8 i.jt, .int .u8 i.jf, .int .u32 i.k], .int .i64 left] w fun e w' => e = .returned (.int .i64 (wrgS s x t i left)) ∧ Fr nob w w' := by
  obtain ⟨⟨p1, p2⟩, ⟨p3, p4⟩, ⟨p5, p6⟩, ⟨p7, p8⟩⟩ := hi
  go_enter Tryz.func49, Tryz.ntmps49
  go_wp2_with fail
  refine (hn.out _).mono ?_
  rintro e w1 ⟨rfl, rfl⟩
  go_wp2_with fail
  refine (ht.out _).mono ?_
  rintro e w1 ⟨rfl, rfl⟩
  go_wp2
  all_goals go_ret
  all_goals refine ⟨ret_i ?_, (Fr.refl _ w).alloc _⟩
  all_goals (rw [wrgS]; clear hn ht)
  all_goals first | (simp_all; done) | (simp_all; omega)
theorem wrong_any (w : World) (i : Ins) (left : Int) (h0 : 0 ≤ left) (h1 : left ≤ 10000) (hi : i.ok) :
    Calls Tryz.prog 49 #[.agg #[.int .u16 i.code, .int .u8 i.jt, .int .u8 i.jf, .int .u32 i.k], .int .i64 left] w fun e w' => e = .returned (.int .i64 (wrgS (nameS i.code) (byxS i.code) (tstS (nameS i.code)) i left)) ∧ Fr nob w w' :=
  wrong_core w i left h0 h1 hi _ _ _ (fun w => name_any w _) (fun w => tests_any w _)
end Go.Proofs.YtfniofpeilgnnaaGreat
