import Derived.Test.YtjgcfffepkmojaaGreatGood
namespace Go.Proofs.YtjgcfffepkmojaaGreat
open Go.RowKit
set_option linter.unusedVariables false

/-- What the reference finds wrong with an instruction of that name. -/
def wrgS (s : ByteArray) (x t : Bool) (i : Ins) (left : Int) : Int :=
  if s.toList = [] then 2 else if s.toList = [106, 117, 109, 112] ∧ left ≤ i.k then 3 else if t = true ∧ (left ≤ i.jt ∨ left ≤ i.jf) then 3 else if s.toList = [97, 61, 97, 116] ∧ (i.k % 4 ≠ 0 ∨ 64 ≤ i.k) then 4
  else if (s.toList = [97, 61, 99, 101, 108, 108] ∨ s.toList = [120, 61, 99, 101, 108, 108] ∨ s.toList = [99, 101, 108, 108, 61, 97] ∨ s.toList = [99, 101, 108, 108, 61, 120]) ∧ 16 ≤ i.k then 5
  else if (s.toList = [47] ∨ s.toList = [37]) ∧ x = false ∧ i.k = 0 then 6 else if (s.toList = [60, 60] ∨ s.toList = [62, 62]) ∧ x = false ∧ 32 ≤ i.k then 7 else 0
set_option maxRecDepth 100000 in
set_option maxHeartbeats 4000000 in
theorem wrong_core (w : World) (i : Ins) (left : Int) (h0 : 0 ≤ left) (h1 : left ≤ 10000) (hi : i.ok) (s : ByteArray) (x t : Bool)
    (hn : Hid (∀ w, Calls Tryz.prog 52 #[.int .u16 i.code] w fun e w' => e = .returned (.tuple #[.string s, .bool x]) ∧ w' = w)) (ht : Hid (∀ w, Calls Tryz.prog 64 #[.string s] w fun e w' => e = .returned (.bool t) ∧ w' = w)) :
    Calls Tryz.prog 51 #[.agg #[.int .u16 i.code, .int .u8 i.jt, .int .u8 i.jf, .int .u32 i.k], .int .i64 left] w fun e w' => e = .returned (.int .i64 (wrgS s x t i left)) ∧ Fr nob w w' := by
  obtain ⟨⟨p1, p2⟩, ⟨p3, p4⟩, ⟨p5, p6⟩, ⟨p7, p8⟩⟩ := hi
  go_enter Tryz.func51, Tryz.ntmps51
  go_wp2_with fail
  refine (hn.out _).mono ?_
  rintro e w1 ⟨rfl, rfl⟩
  go_wp2_with fail
  refine (ht.out _).mono ?_
  rintro e w1 ⟨rfl, rfl⟩
  go_wp2
  all_goals go_ret
  all_goals refine ⟨ret_i ?_, (Fr.refl _ w).alloc _⟩
  all_goals (rw [wrgS]; clear hn ht)
  all_goals first | (simp_all; done) | (simp_all; omega)
theorem wrong_any (w : World) (i : Ins) (left : Int) (h0 : 0 ≤ left) (h1 : left ≤ 10000) (hi : i.ok) :
    Calls Tryz.prog 51 #[.agg #[.int .u16 i.code, .int .u8 i.jt, .int .u8 i.jf, .int .u32 i.k], .int .i64 left] w fun e w' => e = .returned (.int .i64 (wrgS (nameS i.code) (byxS i.code) (tstS (nameS i.code)) i left)) ∧ Fr nob w w' :=
  wrong_core w i left h0 h1 hi _ _ _ (fun w => name_any w _) (fun w => tests_any w _)
end Go.Proofs.YtjgcfffepkmojaaGreat

namespace Go.Proofs.YtjgcfffepkmojaaGreat
open Go.RowKit
set_option linter.unusedVariables false

theorem and8all : (List.range 65536).all (fun n => n &&& 65527 == n || (n &&& 65527) + 8 == n) = true := by decide +kernel
theorem and8 (n : Nat) (h : n < 65536) : n &&& 65527 = n ∨ (n &&& 65527) + 8 = n := by
  have := List.all_eq_true.1 and8all n (List.mem_range.2 h)
  simpa using this
theorem low8 (c : Int) (h0 : 0 ≤ c) (h1 : c < 65536) : bits .andNot .u16 c 8 = c ∨ bits .andNot .u16 c 8 + 8 = c := by
  obtain ⟨n, rfl⟩ := Int.eq_ofNat_of_zero_le h0
  have hn : n < 65536 := by omega
  have := u16_andNot_nat n 8 hn (by decide)
  rw [show ((8 : Nat) : Int) = 8 from rfl] at this
  rw [this]
  have h := and8 n hn
  rw [show (65535 - 8 : Nat) = 65527 from rfl]
  omega

/-- The kind, by the reference's name. -/
def cls (s : List UInt8) (x : Bool) : Int :=
  if s = [] then 0 else if s = [106, 117, 109, 112] then 2 else if s = [105, 102, 61] ∨ s = [105, 102, 62] ∨ s = [105, 102, 62, 61] ∨ s = [105, 102, 38] then 3 else if s = [97, 61, 97, 116] then 4
  else if s = [97, 61, 99, 101, 108, 108] ∨ s = [120, 61, 99, 101, 108, 108] then 5 else if s = [99, 101, 108, 108, 61, 97] ∨ s = [99, 101, 108, 108, 61, 120] then 6
  else if (s = [47] ∨ s = [37]) ∧ x = false then 7 else if (s = [60, 60] ∨ s = [62, 62]) ∧ x = false then 8 else if s = [114, 101, 116, 107] ∨ s = [114, 101, 116, 97] then 9 else 1
def allCodes : List Int := plainCodes ++ testCodes ++ [5, 32, 96, 97, 2, 3, 52, 148, 100, 116, 6, 22]
theorem cls_known : ∀ c ∈ allCodes, cls (nameS c).toList (byxS c) = knd c := by decide +kernel
theorem name_other (c : Int) (h0 : 0 ≤ c) (h1 : c < 65536) (h : c ∉ allCodes) : nameS c = ⟨#[]⟩ := by
  have hl := low8 c h0 h1
  simp only [allCodes, plainCodes, testCodes, List.cons_append, List.nil_append, List.mem_cons, List.not_mem_nil, or_false, not_or] at h
  obtain ⟨a0, a1, a2, a3, a4, a5, a6, a7, a8, a9, a10, a11, a12, a13, a14, a15, a16, a17, a18, a19, a20, a21, a22, a23, a24, a25, a26, a27, a28, a29, a30, a31, a32, a33, a34, a35, a36, a37, a38, a39, a40, a41, a42⟩ := h
  generalize hm : bits .andNot .u16 c 8 = m at hl
  unfold nameS
  rw [hm]
  repeat rw [if_neg (by omega)]
theorem knd_other (c : Int) (h : c ∉ allCodes) : knd c = 0 := by
  simp only [allCodes, List.mem_append, not_or] at h
  obtain ⟨⟨hp, ht⟩, hr⟩ := h
  simp only [List.mem_cons, List.not_mem_nil, or_false, not_or] at hr
  unfold knd
  rw [if_neg hp, if_neg (by omega), if_neg ht]
  repeat rw [if_neg (by omega)]
theorem cls_knd (c : Int) (h0 : 0 ≤ c) (h1 : c < 65536) : cls (nameS c).toList (byxS c) = knd c := by
  by_cases h : c ∈ allCodes
  · exact cls_known c h
  · rw [name_other c h0 h1 h, knd_other c h]
    have : (ByteArray.mk #[]).toList = [] := by decide +kernel
    rw [this]
    simp [cls]

/-- The two ways of finding what is wrong are one. -/
theorem wrg_cls (s : ByteArray) (x : Bool) (i : Ins) (left : Int) (k : Int) (hk : cls s.toList x = k) (hki : knd i.code = k) : wrgS s x (tstS s) i left = flt i left := by
  unfold flt
  rw [hki, ← hk]
  unfold wrgS cls tstS
  generalize s.toList = l
  by_cases h0 : l = []
  · subst h0; simp
  by_cases h1 : l = [106, 117, 109, 112]
  · subst h1; simp
  by_cases h2 : l = [105, 102, 61]
  · subst h2; simp
  by_cases h3 : l = [105, 102, 62]
  · subst h3; simp
  by_cases h4 : l = [105, 102, 62, 61]
  · subst h4; simp
  by_cases h5 : l = [105, 102, 38]
  · subst h5; simp
  by_cases h6 : l = [97, 61, 97, 116]
  · subst h6; simp
  by_cases h7 : l = [97, 61, 99, 101, 108, 108]
  · subst h7; simp
  by_cases h8 : l = [120, 61, 99, 101, 108, 108]
  · subst h8; simp
  by_cases h9 : l = [99, 101, 108, 108, 61, 97]
  · subst h9; simp
  by_cases h10 : l = [99, 101, 108, 108, 61, 120]
  · subst h10; simp
  by_cases h11 : l = [47]
  · subst h11; cases x <;> simp
  by_cases h12 : l = [37]
  · subst h12; cases x <;> simp
  by_cases h13 : l = [60, 60]
  · subst h13; cases x <;> simp
  by_cases h14 : l = [62, 62]
  · subst h14; cases x <;> simp
  by_cases h15 : l = [114, 101, 116, 107]
  · subst h15; simp
  by_cases h16 : l = [114, 101, 116, 97]
  · subst h16; simp
  simp [h0, h1, h2, h3, h4, h5, h6, h7, h8, h9, h10, h11, h12, h13, h14, h15, h16]
theorem wrg_flt (i : Ins) (left : Int) (hi : i.ok) : wrgS (nameS i.code) (byxS i.code) (tstS (nameS i.code)) i left = flt i left :=
  wrg_cls _ _ i left _ rfl (cls_knd _ hi.1.1 hi.1.2).symm
#print axioms wrg_flt
end Go.Proofs.YtjgcfffepkmojaaGreat
