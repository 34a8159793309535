import Derived.Test.YtjgcfffepkmojaaKEnds
namespace Go.Proofs.Ytjgcfffepkmojaa
open Go.RowKit
set_option linter.unusedVariables false

def codeCells : List Value := sumCodes.map (fun c => Value.int .u16 c)
def wantsL (a b x y : Int) : List Value := [.int .u32 ((a + b) % 4294967296), .int .u32 ((a - b) % 4294967296), .int .u32 (a * b % 4294967296), .int .u32 (bits .or .u32 a b), .int .u32 (bits .and .u32 a b), .int .u32 (bits .xor .u32 a b),
  .int .u32 (a * 2 ^ (b % 32).toNat % 4294967296), .int .u32 (a / 2 ^ (b % 32).toNat), .int .u32 x, .int .u32 y]
/-- The two tables. -/
structure Tabs (w : World) (g h : Nat) (a b : Int) : Prop where
  codes : w.heap[g]? = some (.cells codeCells.toArray 37 (0, 0))
  want : w.heap[h]? = some (.cells (wantsL a b (if b = 0 then 0 else a / b) (if b = 0 then 0 else a % b)).toArray 38 (0, 0))
theorem Tabs.fr {w w' : World} {g h : Nat} {a b : Int} (t : Tabs w g h a b) (f : Fr nob w w') : Tabs w' g h a b := ⟨f.heap t.codes (fun x => x), f.heap t.want (fun x => x)⟩
def sC (i : Nat) : Int := sumCodes.getD i 0
theorem sC_mem (i : Nat) (h : i < 10) : sC i ∈ sumCodes := by
  match i, h with
  | 0, _ => decide
  | 1, _ => decide
  | 2, _ => decide
  | 3, _ => decide
  | 4, _ => decide
  | 5, _ => decide
  | 6, _ => decide
  | 7, _ => decide
  | 8, _ => decide
  | 9, _ => decide
  | n + 10, h => exact absurd h (by omega)
theorem Tabs.code {w : World} {g h : Nat} {a b : Int} (t : Tabs w g h a b) (i : Nat) (hi : i < 10) : w.cell? ⟨g, i, none⟩ = some (.int .u16 (sC i)) := cell_blk t.codes (by
  rw [List.getElem?_toArray]
  match i, hi with
  | 0, _ => rfl
  | 1, _ => rfl
  | 2, _ => rfl
  | 3, _ => rfl
  | 4, _ => rfl
  | 5, _ => rfl
  | 6, _ => rfl
  | 7, _ => rfl
  | 8, _ => rfl
  | 9, _ => rfl
  | n + 10, h => exact absurd h (by omega))
theorem Tabs.wants {w : World} {g h : Nat} {a b : Int} (t : Tabs w g h a b) (i : Nat) (hi : i < 10) : w.cell? ⟨h, i, none⟩ = some (.int .u32 (wantS (sC i) a b)) := cell_blk t.want (by
  rw [List.getElem?_toArray]
  match i, hi with
  | 0, _ => rfl
  | 1, _ => rfl
  | 2, _ => rfl
  | 3, _ => rfl
  | 4, _ => rfl
  | 5, _ => rfl
  | 6, _ => rfl
  | 7, _ => rfl
  | 8, _ => rfl
  | 9, _ => rfl
  | n + 10, h => exact absurd h (by omega))

theorem sC_low (i : Nat) (h : i < 6) : sC i ≠ 52 ∧ sC i ≠ 148 ∧ sC i ≠ 100 ∧ sC i ≠ 116 := by
  match i, h with
  | 0, _ => decide
  | 1, _ => decide
  | 2, _ => decide
  | 3, _ => decide
  | 4, _ => decide
  | 5, _ => decide
  | n + 6, h => exact absurd h (by omega)
theorem sC_mid (i : Nat) (h : i < 8) : sC i ≠ 52 ∧ sC i ≠ 148 := by
  match i, h with
  | 0, _ => decide
  | 1, _ => decide
  | 2, _ => decide
  | 3, _ => decide
  | 4, _ => decide
  | 5, _ => decide
  | 6, _ => decide
  | 7, _ => decide
  | n + 8, h => exact absurd h (by omega)
theorem sC_high (i : Nat) (h : 7 < i) (h10 : i < 10) : sC i = 52 ∨ sC i = 148 := by
  have : i = 8 ∨ i = 9 := by omega
  rcases this with rfl | rfl
  · exact .inl (by decide)
  · exact .inr (by decide)

set_option maxRecDepth 100000 in
set_option maxHeartbeats 4000000 in
theorem sums_any (w : World) (a b : Int) (ha : U32 a) (hb : U32 b) :
    Calls Try.prog 4 #[.int .u32 a, .int .u32 b] w fun e w' => e = .returned (.bool true) ∧ Fr nob w w' := by
  have s1 : (0 : Int) ≤ b % 32 := by omega
  have s2 : b % 32 < 32 := by omega
  have s3 : b.tmod 32 = b % 32 := Int.tmod_eq_emod_of_nonneg hb.1
  go_enter Try.func4, Try.ntmps4
  go_wp2_with fail
  refine (record_any w a b ha hb q0 q0_u64).mono ?_
  rintro e w1 ⟨rfl, f1⟩
  have hr := rec_size a b q0
  have hw0 := rec_wd0 a b q0 ha
  have hw4 := rec_wd4 a b q0 hb
  obtain ⟨r, hre⟩ : ∃ r, r = recB a b q0 := ⟨_, rfl⟩
  rw [← hre] at hr hw0 hw4 ⊢
  clear hre
  have HR := hide hr
  have HW0 := hide hw0
  have HW4 := hide hw4
  have F1 := hide f1
  clear hr hw0 hw4 f1
-- THE ROUNDS
  by_cases hz : b = 0
  · have hz0 : (b == 0) = true := by rw [beq_iff_eq]; exact hz
    have HZ := hide hz
    clear hz
    go_upto_region 7 with fail
    have T0 : Tabs ((w1.alloc (.cells codeCells.toArray 37)).alloc (.cells (wantsL a b 0 0).toArray 38)) w1.heap.size (w1.heap.size + 1) a b := by
      refine ⟨blk_alloc (heap_alloc_new w1 _), ?_⟩
      rw [two_new]
      simp only [HZ.out, if_true]
    have F0 : Fr nob w ((w1.alloc (.cells codeCells.toArray 37)).alloc (.cells (wantsL a b 0 0).toArray 38)) := (F1.out.alloc _).alloc _
    obtain ⟨w9, hw9⟩ : ∃ w9, w9 = ((w1.alloc (.cells codeCells.toArray 37)).alloc (.cells (wantsL a b 0 0).toArray 38)) := ⟨_, rfl⟩
    change Code.wp _ _ _ _ ((w1.alloc (.cells codeCells.toArray 37)).alloc (.cells (wantsL a b 0 0).toArray 38))
    rw [← hw9]
    rw [← hw9] at T0 F0
    obtain ⟨g, hg⟩ : ∃ g, g = w1.heap.size := ⟨_, rfl⟩
    obtain ⟨h, hh⟩ : ∃ h, h = w1.heap.size + 1 := ⟨_, rfl⟩
    rw [← hh] at T0 ⊢
    rw [← hg] at T0 ⊢
    have TB := hide T0
    have FB := hide F0
    have HB := hide hb
    clear hw9 T0 F0 F1 hg hh s1 s2 s3
    go_wp2_with fail
    generalize Value.bool (b != 0) = v53
    go_loopw [8] (fun x wr => ∃ i : Nat, i ≤ 10 ∧ x = .int .i64 i ∧ Tabs wr g h a b ∧ Fr nob w wr) (fun x _ => 10 - (intOf x).toNat)
    case atStart => exact ⟨0, by omega, rfl, TB.out, FB.out⟩
    case round =>
      clear TB FB
      obtain ⟨i, hi, rfl, tb, f⟩ := hrel
      by_cases h10 : i < 10
      · have hi10 : (i : Int) < 10 := by omega
        have hi0 : (0 : Int) ≤ (i : Int) := by omega
        have cc := tb.code i h10
        have cw := tb.wants i h10
        have hcm := hide (sC_mem i h10)
        obtain ⟨c, hce⟩ : ∃ c, c = sC i := ⟨_, rfl⟩
        obtain ⟨v, hvv⟩ : ∃ v, v = wantS c a b := ⟨_, rfl⟩
        rw [← hce] at cc cw hcm
        rw [← hvv] at cw
        obtain ⟨_, hc0, hc1, _⟩ := sum_knd c hcm.out
        have e8 : IntKind.u16.wrap (c + 8) = c + 8 := u16_wrap_id _ (by omega) (by omega)
        have HCE := hide hce
        have HVV := hide hvv
        have hgl := World.block_lt_of_cell? wr _ cc
        have hhl := World.block_lt_of_cell? wr _ cw
        have hvX : View (wr.alloc (.cells (flat (prX c)).toArray 32)) (some ⟨wr.heap.size, 0, none⟩) (flat (prX c)) := view_new wr _ _
        obtain ⟨hA, b1, b2⟩ := prX_run c hcm.out r HR.out
        rw [HW0.out, HW4.out, ← hvv] at hA
        have HX := hide (verdict_any _ (some ⟨wr.heap.size, 0, none⟩) 5 (prX c) hvX (prX_good c hcm.out).ok r _ _ hA b1 b2)
        have FX := hide (f.alloc (.cells (flat (prX c)).toArray 32))
        have TX := hide (tb.fr ((Fr.refl nob wr).alloc (.cells (flat (prX c)).toArray 32)))
        clear hce hvv hvX hA b1 b2 tb f
        go_wp2_with fail
        refine HX.out.mono ?_
        rintro e w2 ⟨rfl, f2⟩
        have F2 := hide (FX.out.trans f2)
        have T2 := hide (TX.out.fr f2)
        have cw2 := T2.out.wants i h10
        have cc2 := T2.out.code i h10
        rw [← HCE.out] at cc2 cw2
        rw [← HVV.out] at cw2
        have hgl2 := World.block_lt_of_cell? w2 _ cc2
        have hhl2 := World.block_lt_of_cell? w2 _ cw2
        have hvK : View (w2.alloc (.cells (flat (prK c b)).toArray 32)) (some ⟨w2.heap.size, 0, none⟩) (flat (prK c b)) := view_new w2 _ _
        have FK := hide (F2.out.alloc (.cells (flat (prK c b)).toArray 32))
        have TK := hide (T2.out.fr ((Fr.refl nob w2).alloc (.cells (flat (prK c b)).toArray 32)))
        clear f2 HX FX TX cc cw hgl hhl
        by_cases h7 : 7 < i
        · have h7i : (7 : Int) < (i : Int) := by omega
          have HC := hide (check_is _ (some ⟨w2.heap.size, 0, none⟩) 3 (prK c b) hvK (prK_ok c b hcm.out HB.out) 6 1 (by rw [HZ.out]; exact prK_nought c (by have := sC_high i h7 h10; rw [← HCE.out] at this; exact this)))
          clear hvK
          go_wp2_with fail
          refine HC.out.mono ?_
          rintro e w3 ⟨rfl, f3⟩
          have F3 := hide (FK.out.trans f3)
          have T3 := hide (TK.out.fr f3)
          clear f3 HC
          go_wp2
          refine ⟨⟨i + 1, by omega, by go_num, T3.out, F3.out⟩, ?_⟩
          simp [intOf]; omega
        · have h7i : ¬ (7 : Int) < (i : Int) := by omega
          by_cases h6e : i = 6
          · have h6i : ((i : Int) == 6) = true := by rw [beq_iff_eq]; omega
            have H6 := hide h6e
            clear h6e
            have hb31 : ¬ (31 : Int) < b := by have := HZ.out; omega
            obtain ⟨hA, b1, b2⟩ := prK_run c b hcm.out HB.out (fun h => by have := sC_mid i (by omega); rw [← HCE.out] at this; omega) (fun _ => by have := HZ.out; omega) r HR.out
            rw [HW0.out, ← HVV.out] at hA
            have HC := hide (verdict_any _ (some ⟨w2.heap.size, 0, none⟩) 3 (prK c b) hvK (prK_ok c b hcm.out HB.out) r _ _ hA b1 b2)
            clear hvK hA b1 b2
            go_wp2_with fail
            refine HC.out.mono ?_
            rintro e w3 ⟨rfl, f3⟩
            have F3 := hide (FK.out.trans f3)
            have T3 := hide (TK.out.fr f3)
            have cw3 := T3.out.wants i h10
            rw [← HCE.out, ← HVV.out] at cw3
            have hlt3 := World.block_lt_of_cell? w3 _ cw3
            clear f3 HC
            go_wp2
            refine ⟨⟨i + 1, by omega, by go_num, T3.out, F3.out⟩, ?_⟩
            simp [intOf]; omega
          · have h6i : ((i : Int) == 6) = false := by rw [beq_eq_false_iff_ne]; omega
            have H6 := hide h6e
            clear h6e
            by_cases h7e : i = 7
            · have h7i : ((i : Int) == 7) = true := by rw [beq_iff_eq]; omega
              have H7 := hide h7e
              clear h7e
              have hb31 : ¬ (31 : Int) < b := by have := HZ.out; omega
              obtain ⟨hA, b1, b2⟩ := prK_run c b hcm.out HB.out (fun h => by have := sC_mid i (by omega); rw [← HCE.out] at this; omega) (fun _ => by have := HZ.out; omega) r HR.out
              rw [HW0.out, ← HVV.out] at hA
              have HC := hide (verdict_any _ (some ⟨w2.heap.size, 0, none⟩) 3 (prK c b) hvK (prK_ok c b hcm.out HB.out) r _ _ hA b1 b2)
              clear hvK hA b1 b2
              go_wp2_with fail
              refine HC.out.mono ?_
              rintro e w3 ⟨rfl, f3⟩
              have F3 := hide (FK.out.trans f3)
              have T3 := hide (TK.out.fr f3)
              have cw3 := T3.out.wants i h10
              rw [← HCE.out, ← HVV.out] at cw3
              have hlt3 := World.block_lt_of_cell? w3 _ cw3
              clear f3 HC
              go_wp2
              refine ⟨⟨i + 1, by omega, by go_num, T3.out, F3.out⟩, ?_⟩
              simp [intOf]; omega
            · have h7i : ((i : Int) == 7) = false := by rw [beq_eq_false_iff_ne]; omega
              have H7 := hide h7e
              clear h7e
              obtain ⟨hA, b1, b2⟩ := prK_run c b hcm.out HB.out (fun h => by have := sC_mid i (by omega); rw [← HCE.out] at this; omega) (fun h => by have := sC_low i (by have := H6.out; have := H7.out; omega); rw [← HCE.out] at this; omega) r HR.out
              rw [HW0.out, ← HVV.out] at hA
              have HC := hide (verdict_any _ (some ⟨w2.heap.size, 0, none⟩) 3 (prK c b) hvK (prK_ok c b hcm.out HB.out) r _ _ hA b1 b2)
              clear hvK hA b1 b2
              go_wp2_with fail
              refine HC.out.mono ?_
              rintro e w3 ⟨rfl, f3⟩
              have F3 := hide (FK.out.trans f3)
              have T3 := hide (TK.out.fr f3)
              have cw3 := T3.out.wants i h10
              rw [← HCE.out, ← HVV.out] at cw3
              have hlt3 := World.block_lt_of_cell? w3 _ cw3
              clear f3 HC
              go_wp2
              refine ⟨⟨i + 1, by omega, by go_num, T3.out, F3.out⟩, ?_⟩
              simp [intOf]; omega
      · obtain rfl : i = 10 := by omega
        obtain ⟨hA, b1, b2⟩ := prN_run r HR.out
        rw [HW0.out] at hA
        have hvN : View (wr.alloc (.cells (flat prN).toArray 32)) (some ⟨wr.heap.size, 0, none⟩) (flat prN) := view_new wr _ _
        have HN := hide (verdict_any _ (some ⟨wr.heap.size, 0, none⟩) 3 prN hvN prN_good.ok r _ _ hA b1 b2)
        have FN := hide (f.alloc (.cells (flat prN).toArray 32))
        clear hA b1 b2 hvN tb f
        go_wp2_with fail
        refine HN.out.mono ?_
        rintro e w2 ⟨rfl, f2⟩
        have F2 := hide (FN.out.trans f2)
        clear f2 HN FN
        go_wp2
        go_ret
        exact ⟨rfl, F2.out⟩
  · have hz0 : (b == 0) = false := by simp [hz]
    have t1 : a.tdiv b % 4294967296 = a / b := quo_eq a b ha hb
    have t2 : a.tmod b = a % b := Int.tmod_eq_emod_of_nonneg ha.1
    have HZ := hide hz
    go_upto_region 7 with fail
    clear t1 t2
    have T0 : Tabs ((w1.alloc (.cells codeCells.toArray 37)).alloc (.cells (wantsL a b (a / b) (a % b)).toArray 38)) w1.heap.size (w1.heap.size + 1) a b := by
      refine ⟨blk_alloc (heap_alloc_new w1 _), ?_⟩
      rw [two_new]
      simp only [HZ.out, if_false]
    have F0 : Fr nob w ((w1.alloc (.cells codeCells.toArray 37)).alloc (.cells (wantsL a b (a / b) (a % b)).toArray 38)) := (F1.out.alloc _).alloc _
    obtain ⟨w9, hw9⟩ : ∃ w9, w9 = ((w1.alloc (.cells codeCells.toArray 37)).alloc (.cells (wantsL a b (a / b) (a % b)).toArray 38)) := ⟨_, rfl⟩
    change Code.wp _ _ _ _ ((w1.alloc (.cells codeCells.toArray 37)).alloc (.cells (wantsL a b (a / b) (a % b)).toArray 38))
    rw [← hw9]
    rw [← hw9] at T0 F0
    obtain ⟨g, hg⟩ : ∃ g, g = w1.heap.size := ⟨_, rfl⟩
    obtain ⟨h, hh⟩ : ∃ h, h = w1.heap.size + 1 := ⟨_, rfl⟩
    rw [← hh] at T0 ⊢
    rw [← hg] at T0 ⊢
    have TB := hide T0
    have FB := hide F0
    have HB := hide hb
    clear hw9 T0 F0 F1 hg hh s1 s2 s3
    go_wp2_with fail
    generalize Value.bool (b != 0) = v53
    go_loopw [8] (fun x wr => ∃ i : Nat, i ≤ 10 ∧ x = .int .i64 i ∧ Tabs wr g h a b ∧ Fr nob w wr) (fun x _ => 10 - (intOf x).toNat)
    case atStart => exact ⟨0, by omega, rfl, TB.out, FB.out⟩
    case round =>
      clear TB FB
      obtain ⟨i, hi, rfl, tb, f⟩ := hrel
      by_cases h10 : i < 10
      · have hi10 : (i : Int) < 10 := by omega
        have hi0 : (0 : Int) ≤ (i : Int) := by omega
        have cc := tb.code i h10
        have cw := tb.wants i h10
        have hcm := hide (sC_mem i h10)
        obtain ⟨c, hce⟩ : ∃ c, c = sC i := ⟨_, rfl⟩
        obtain ⟨v, hvv⟩ : ∃ v, v = wantS c a b := ⟨_, rfl⟩
        rw [← hce] at cc cw hcm
        rw [← hvv] at cw
        obtain ⟨_, hc0, hc1, _⟩ := sum_knd c hcm.out
        have e8 : IntKind.u16.wrap (c + 8) = c + 8 := u16_wrap_id _ (by omega) (by omega)
        have HCE := hide hce
        have HVV := hide hvv
        have hgl := World.block_lt_of_cell? wr _ cc
        have hhl := World.block_lt_of_cell? wr _ cw
        have hvX : View (wr.alloc (.cells (flat (prX c)).toArray 32)) (some ⟨wr.heap.size, 0, none⟩) (flat (prX c)) := view_new wr _ _
        obtain ⟨hA, b1, b2⟩ := prX_run c hcm.out r HR.out
        rw [HW0.out, HW4.out, ← hvv] at hA
        have HX := hide (verdict_any _ (some ⟨wr.heap.size, 0, none⟩) 5 (prX c) hvX (prX_good c hcm.out).ok r _ _ hA b1 b2)
        have FX := hide (f.alloc (.cells (flat (prX c)).toArray 32))
        have TX := hide (tb.fr ((Fr.refl nob wr).alloc (.cells (flat (prX c)).toArray 32)))
        clear hce hvv hvX hA b1 b2 tb f
        go_wp2_with fail
        refine HX.out.mono ?_
        rintro e w2 ⟨rfl, f2⟩
        have F2 := hide (FX.out.trans f2)
        have T2 := hide (TX.out.fr f2)
        have cw2 := T2.out.wants i h10
        have cc2 := T2.out.code i h10
        rw [← HCE.out] at cc2 cw2
        rw [← HVV.out] at cw2
        have hgl2 := World.block_lt_of_cell? w2 _ cc2
        have hhl2 := World.block_lt_of_cell? w2 _ cw2
        have hvK : View (w2.alloc (.cells (flat (prK c b)).toArray 32)) (some ⟨w2.heap.size, 0, none⟩) (flat (prK c b)) := view_new w2 _ _
        have FK := hide (F2.out.alloc (.cells (flat (prK c b)).toArray 32))
        have TK := hide (T2.out.fr ((Fr.refl nob w2).alloc (.cells (flat (prK c b)).toArray 32)))
        clear f2 HX FX TX cc cw hgl hhl
        by_cases h7 : 7 < i
        · have h7i : (7 : Int) < (i : Int) := by omega
          have h6i : ((i : Int) == 6) = false := by rw [beq_eq_false_iff_ne]; omega
          have h77 : ((i : Int) == 7) = false := by rw [beq_eq_false_iff_ne]; omega
          obtain ⟨hA, b1, b2⟩ := prK_run c b hcm.out HB.out (fun _ => HZ.out) (fun h => by have := sC_high i h7 h10; rw [← HCE.out] at this; omega) r HR.out
          rw [HW0.out, ← HVV.out] at hA
          have HC := hide (verdict_any _ (some ⟨w2.heap.size, 0, none⟩) 3 (prK c b) hvK (prK_ok c b hcm.out HB.out) r _ _ hA b1 b2)
          clear hvK hA b1 b2
          go_wp2_with fail
          refine HC.out.mono ?_
          rintro e w3 ⟨rfl, f3⟩
          have F3 := hide (FK.out.trans f3)
          have T3 := hide (TK.out.fr f3)
          have cw3 := T3.out.wants i h10
          rw [← HCE.out, ← HVV.out] at cw3
          have hlt3 := World.block_lt_of_cell? w3 _ cw3
          clear f3 HC
          go_wp2
          refine ⟨⟨i + 1, by omega, by go_num, T3.out, F3.out⟩, ?_⟩
          simp [intOf]; omega
        · have h7i : ¬ (7 : Int) < (i : Int) := by omega
          by_cases h6e : i = 6
          · have h6i : ((i : Int) == 6) = true := by rw [beq_iff_eq]; omega
            have H6 := hide h6e
            clear h6e
            by_cases hb31 : (31 : Int) < b
            · skip
              have HC := hide (check_is _ (some ⟨w2.heap.size, 0, none⟩) 3 (prK c b) hvK (prK_ok c b hcm.out HB.out) 7 1 (prK_shift c b (by rw [HCE.out, H6.out]; decide) hb31))
              clear hvK
              go_wp2_with fail
              refine HC.out.mono ?_
              rintro e w3 ⟨rfl, f3⟩
              have F3 := hide (FK.out.trans f3)
              have T3 := hide (TK.out.fr f3)
              clear f3 HC
              go_wp2
              refine ⟨⟨i + 1, by omega, by go_num, T3.out, F3.out⟩, ?_⟩
              simp [intOf]; omega
            · skip
              obtain ⟨hA, b1, b2⟩ := prK_run c b hcm.out HB.out (fun h => by have := sC_mid i (by omega); rw [← HCE.out] at this; omega) (fun _ => by omega) r HR.out
              rw [HW0.out, ← HVV.out] at hA
              have HC := hide (verdict_any _ (some ⟨w2.heap.size, 0, none⟩) 3 (prK c b) hvK (prK_ok c b hcm.out HB.out) r _ _ hA b1 b2)
              clear hvK hA b1 b2
              go_wp2_with fail
              refine HC.out.mono ?_
              rintro e w3 ⟨rfl, f3⟩
              have F3 := hide (FK.out.trans f3)
              have T3 := hide (TK.out.fr f3)
              have cw3 := T3.out.wants i h10
              rw [← HCE.out, ← HVV.out] at cw3
              have hlt3 := World.block_lt_of_cell? w3 _ cw3
              clear f3 HC
              go_wp2
              refine ⟨⟨i + 1, by omega, by go_num, T3.out, F3.out⟩, ?_⟩
              simp [intOf]; omega
          · have h6i : ((i : Int) == 6) = false := by rw [beq_eq_false_iff_ne]; omega
            have H6 := hide h6e
            clear h6e
            by_cases h7e : i = 7
            · have h7i : ((i : Int) == 7) = true := by rw [beq_iff_eq]; omega
              have H7 := hide h7e
              clear h7e
              by_cases hb31 : (31 : Int) < b
              · skip
                have HC := hide (check_is _ (some ⟨w2.heap.size, 0, none⟩) 3 (prK c b) hvK (prK_ok c b hcm.out HB.out) 7 1 (prK_shift c b (by rw [HCE.out, H7.out]; decide) hb31))
                clear hvK
                go_wp2_with fail
                refine HC.out.mono ?_
                rintro e w3 ⟨rfl, f3⟩
                have F3 := hide (FK.out.trans f3)
                have T3 := hide (TK.out.fr f3)
                clear f3 HC
                go_wp2
                refine ⟨⟨i + 1, by omega, by go_num, T3.out, F3.out⟩, ?_⟩
                simp [intOf]; omega
              · skip
                obtain ⟨hA, b1, b2⟩ := prK_run c b hcm.out HB.out (fun h => by have := sC_mid i (by omega); rw [← HCE.out] at this; omega) (fun _ => by omega) r HR.out
                rw [HW0.out, ← HVV.out] at hA
                have HC := hide (verdict_any _ (some ⟨w2.heap.size, 0, none⟩) 3 (prK c b) hvK (prK_ok c b hcm.out HB.out) r _ _ hA b1 b2)
                clear hvK hA b1 b2
                go_wp2_with fail
                refine HC.out.mono ?_
                rintro e w3 ⟨rfl, f3⟩
                have F3 := hide (FK.out.trans f3)
                have T3 := hide (TK.out.fr f3)
                have cw3 := T3.out.wants i h10
                rw [← HCE.out, ← HVV.out] at cw3
                have hlt3 := World.block_lt_of_cell? w3 _ cw3
                clear f3 HC
                go_wp2
                refine ⟨⟨i + 1, by omega, by go_num, T3.out, F3.out⟩, ?_⟩
                simp [intOf]; omega
            · have h7i : ((i : Int) == 7) = false := by rw [beq_eq_false_iff_ne]; omega
              have H7 := hide h7e
              clear h7e
              obtain ⟨hA, b1, b2⟩ := prK_run c b hcm.out HB.out (fun h => by have := sC_mid i (by omega); rw [← HCE.out] at this; omega) (fun h => by have := sC_low i (by have := H6.out; have := H7.out; omega); rw [← HCE.out] at this; omega) r HR.out
              rw [HW0.out, ← HVV.out] at hA
              have HC := hide (verdict_any _ (some ⟨w2.heap.size, 0, none⟩) 3 (prK c b) hvK (prK_ok c b hcm.out HB.out) r _ _ hA b1 b2)
              clear hvK hA b1 b2
              go_wp2_with fail
              refine HC.out.mono ?_
              rintro e w3 ⟨rfl, f3⟩
              have F3 := hide (FK.out.trans f3)
              have T3 := hide (TK.out.fr f3)
              have cw3 := T3.out.wants i h10
              rw [← HCE.out, ← HVV.out] at cw3
              have hlt3 := World.block_lt_of_cell? w3 _ cw3
              clear f3 HC
              go_wp2
              refine ⟨⟨i + 1, by omega, by go_num, T3.out, F3.out⟩, ?_⟩
              simp [intOf]; omega
      · obtain rfl : i = 10 := by omega
        obtain ⟨hA, b1, b2⟩ := prN_run r HR.out
        rw [HW0.out] at hA
        have hvN : View (wr.alloc (.cells (flat prN).toArray 32)) (some ⟨wr.heap.size, 0, none⟩) (flat prN) := view_new wr _ _
        have HN := hide (verdict_any _ (some ⟨wr.heap.size, 0, none⟩) 3 prN hvN prN_good.ok r _ _ hA b1 b2)
        have FN := hide (f.alloc (.cells (flat prN).toArray 32))
        clear hA b1 b2 hvN tb f
        go_wp2_with fail
        refine HN.out.mono ?_
        rintro e w2 ⟨rfl, f2⟩
        have F2 := hide (FN.out.trans f2)
        clear f2 HN FN
        go_wp2
        go_ret
        exact ⟨rfl, F2.out⟩
#print axioms sums_any
end Go.Proofs.Ytjgcfffepkmojaa
