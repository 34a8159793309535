import Derived.Test.YtjgcfffepkmojaaKEnds
namespace Go.Proofs.Ytjgcfffepkmojaa
open Go.RowKit
set_option linter.unusedVariables false

set_option maxRecDepth 100000 in
set_option maxHeartbeats 2000000 in
theorem kpick_any (w : World) (c : Int) (hc : I64 c) : Calls Try.prog 15 #[.int .i64 c, .int .i64 16] w fun e w' => (∃ n : Nat, n < 16 ∧ e = .returned (.int .i64 (n : Int))) ∧ w' = w := by
  obtain ⟨h1, h2⟩ := hc
  by_cases h : c < 0
  · have e1 : IntKind.i64.wrap (c + 1) = c + 1 := by simp [IntKind.wrap_i64]; omega
    have e2 : IntKind.i64.wrap (-(c + 1)) = -(c + 1) := by simp [IntKind.wrap_i64]; omega
    obtain ⟨m, hm⟩ := Int.eq_ofNat_of_zero_le (show 0 ≤ -(c + 1) by omega)
    rw [hm] at e2
    have e3 : (m : Int).tmod 16 = ((m % 16 : Nat) : Int) := by rw [Int.tmod_eq_emod_of_nonneg (by omega)]; omega
    go_enter Try.func15, Try.ntmps15
    go_wp2
    go_ret
    exact ⟨⟨m % 16, Nat.mod_lt _ (by decide), rfl⟩, rfl⟩
  · obtain ⟨m, hm⟩ := Int.eq_ofNat_of_zero_le (show 0 ≤ c by omega)
    subst hm
    have e3 : (m : Int).tmod 16 = ((m % 16 : Nat) : Int) := by rw [Int.tmod_eq_emod_of_nonneg (by omega)]; omega
    have h' : ¬ ((m : Int) < 0) := h
    go_enter Try.func15, Try.ntmps15
    go_wp2
    go_ret
    exact ⟨⟨m % 16, Nat.mod_lt _ (by decide), rfl⟩, rfl⟩
theorem prC_ok (c d : Nat) (hc : c < 16) (hd : d < 16) : ∀ x ∈ prC c d, x.ok := (prC_good c d hc hd).ok
theorem prM_ok (c k : Nat) (hc : c < 16) (hk : k < 16) : ∀ x ∈ prM c k, x.ok := (prM_good c k hc hk).ok

set_option maxRecDepth 100000 in
set_option maxHeartbeats 4000000 in
theorem cells_any (w : World) (a cell other : Int) (ha : U32 a) (h1 : I64 cell) (h2 : I64 other) (both : Bool) :
    Calls Try.prog 6 #[.int .u32 a, .int .i64 cell, .int .i64 other, .bool both] w fun e w' => e = .returned (.bool true) ∧ Fr nob w w' := by
  go_enter Try.func6, Try.ntmps6
  go_wp2_with fail
  refine (kpick_any w cell h1).mono ?_
  rintro e w1 ⟨⟨c, hc, rfl⟩, rfl⟩
  have ec : IntKind.u32.wrap (c : Int) = (c : Int) := u32_wrap_id _ (by omega) (by omega)
  go_wp2_with fail
  refine (kpick_any w1 other h2).mono ?_
  rintro e w2 ⟨⟨d, hd, rfl⟩, rfl⟩
  have ed : IntKind.u32.wrap (d : Int) = (d : Int) := u32_wrap_id _ (by omega) (by omega)
  go_wp2_with fail
  refine (record_any w2 a 5 ha ⟨by decide, by decide⟩ q0 q0_u64).mono ?_
  rintro e w3 ⟨rfl, f3⟩
  have hr := rec_size a 5 q0
  have hw := rec_wd0 a 5 q0 ha
  obtain ⟨r, hre⟩ : ∃ r, r = recB a 5 q0 := ⟨_, rfl⟩
  rw [← hre] at hr hw ⊢
  obtain ⟨hA, b1, b2⟩ := prC_run c d hc hd r hr
  rw [hw] at hA
  have hvC : View (w3.alloc (.cells (flat (prC c d)).toArray 32)) (some ⟨w3.heap.size, 0, none⟩) (flat (prC c d)) := view_new w3 _ _
  have HR := hide (verdict_any _ (some ⟨w3.heap.size, 0, none⟩) 7 (prC c d) hvC (prC_ok c d hc hd) r _ _ hA b1 b2)
  have F4 := hide (f3.alloc (.cells (flat (prC c d)).toArray 32))
  clear hA b1 b2 hvC f3 hre
  go_wp2_with fail
  refine HR.out.mono ?_
  rintro e w5 ⟨rfl, f5⟩
  have F5 := hide (F4.out.trans f5)
  clear f5 HR F4
  have HF := hide F5.out
  by_cases hcd : c = d
  · subst hcd
    rw [if_pos rfl]
    cases both with
    | true =>
      have hvM : View (w5.alloc (.cells (flat (prM c c)).toArray 32)) (some ⟨w5.heap.size, 0, none⟩) (flat (prM c c)) := view_new w5 _ _
      have HM := hide (check_is _ (some ⟨w5.heap.size, 0, none⟩) 7 (prM c c) hvM (prM_ok c c hc hc) 0 0 (by rw [prM_chk c c hc hc, if_pos rfl]))
      have F6 := hide (HF.out.alloc (.cells (flat (prM c c)).toArray 32))
      clear hvM
      go_wp2_with fail
      refine HM.out.mono ?_
      rintro e w6 ⟨rfl, f6⟩
      have F7 := hide (F6.out.trans f6)
      clear f6 HM
      go_wp2
      go_ret
      exact ⟨rfl, F7.out⟩
    | false =>
      obtain ⟨k, hk⟩ : ∃ k : Nat, k = (c + 1 + c % 15) % 16 := ⟨_, rfl⟩
      have hk16 : k < 16 := by omega
      have hkc : k ≠ c := by omega
      have hki : ((c : Int) + 1 + (c : Int) % 15) % 16 = (k : Int) := by omega
      have hvM : View (w5.alloc (.cells (flat (prM c k)).toArray 32)) (some ⟨w5.heap.size, 0, none⟩) (flat (prM c k)) := view_new w5 _ _
      have HM := hide (check_is _ (some ⟨w5.heap.size, 0, none⟩) 7 (prM c k) hvM (prM_ok c k hc hk16) 9 5 (by rw [prM_chk c k hc hk16, if_neg hkc]))
      have F6 := hide (HF.out.alloc (.cells (flat (prM c k)).toArray 32))
      clear hvM hkc hk
      go_wp2_with fail
      refine HM.out.mono ?_
      rintro e w6 ⟨rfl, f6⟩
      have F7 := hide (F6.out.trans f6)
      clear f6 HM
      go_wp2
      go_ret
      exact ⟨rfl, F7.out⟩
  · rw [if_neg hcd]
    have hq : ((c : Int) == (d : Int)) = false := by rw [beq_eq_false_iff_ne]; omega
    cases both with
    | true =>
      have hvM : View (w5.alloc (.cells (flat (prM c c)).toArray 32)) (some ⟨w5.heap.size, 0, none⟩) (flat (prM c c)) := view_new w5 _ _
      have HM := hide (check_is _ (some ⟨w5.heap.size, 0, none⟩) 7 (prM c c) hvM (prM_ok c c hc hc) 0 0 (by rw [prM_chk c c hc hc, if_pos rfl]))
      have F6 := hide (HF.out.alloc (.cells (flat (prM c c)).toArray 32))
      clear hvM
      go_wp2_with fail
      refine HM.out.mono ?_
      rintro e w6 ⟨rfl, f6⟩
      have F7 := hide (F6.out.trans f6)
      clear f6 HM
      go_wp2
      go_ret
      exact ⟨rfl, F7.out⟩
    | false =>
      obtain ⟨k, hk⟩ : ∃ k : Nat, k = (c + 1 + d % 15) % 16 := ⟨_, rfl⟩
      have hk16 : k < 16 := by omega
      have hkc : k ≠ c := by omega
      have hki : ((c : Int) + 1 + (d : Int) % 15) % 16 = (k : Int) := by omega
      have hvM : View (w5.alloc (.cells (flat (prM c k)).toArray 32)) (some ⟨w5.heap.size, 0, none⟩) (flat (prM c k)) := view_new w5 _ _
      have HM := hide (check_is _ (some ⟨w5.heap.size, 0, none⟩) 7 (prM c k) hvM (prM_ok c k hc hk16) 9 5 (by rw [prM_chk c k hc hk16, if_neg hkc]))
      have F6 := hide (HF.out.alloc (.cells (flat (prM c k)).toArray 32))
      clear hvM hkc hk
      go_wp2_with fail
      refine HM.out.mono ?_
      rintro e w6 ⟨rfl, f6⟩
      have F7 := hide (F6.out.trans f6)
      clear f6 HM
      go_wp2
      go_ret
      exact ⟨rfl, F7.out⟩
#print axioms cells_any
end Go.Proofs.Ytjgcfffepkmojaa
