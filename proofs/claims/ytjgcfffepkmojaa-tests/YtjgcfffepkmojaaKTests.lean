import Derived.Test.YtjgcfffepkmojaaKEnds
namespace Go.Proofs.Ytjgcfffepkmojaa
open Go.RowKit
set_option linter.unusedVariables false

def tC (i : Nat) : Int := tstCodes.getD i 0
def tCells : List Value := tstCodes.map (fun c => Value.int .u16 c)
def tWant (a b : Int) : List Value := [.bool (a == b), .bool (decide (b < a)), .bool (decide (b ≤ a)), .bool (bits .and .u32 a b != 0)]
theorem tC_mem (i : Nat) (h : i < 4) : tC i ∈ tstCodes := by
  match i, h with
  | 0, _ => decide
  | 1, _ => decide
  | 2, _ => decide
  | 3, _ => decide
  | n + 4, h => exact absurd h (by omega)
/-- The two tables. -/
structure TabT (w : World) (g h : Nat) (a b : Int) : Prop where
  codes : w.heap[g]? = some (.cells tCells.toArray 42 (0, 0))
  want : w.heap[h]? = some (.cells (tWant a b).toArray 43 (0, 0))
section
variable {w w' : World} {g h : Nat} {a b : Int}
theorem TabT.fr (t : TabT w g h a b) (f : Fr nob w w') : TabT w' g h a b := ⟨f.heap t.codes (fun x => x), f.heap t.want (fun x => x)⟩
theorem TabT.frS {S : Nat → Prop} (t : TabT w g h a b) (f : Fr S w w') (h1 : ¬ S g) (h2 : ¬ S h) : TabT w' g h a b := ⟨f.heap t.codes h1, f.heap t.want h2⟩
theorem TabT.code (t : TabT w g h a b) (i : Nat) (hi : i < 4) : w.cell? ⟨g, i, none⟩ = some (.int .u16 (tC i)) := cell_blk t.codes (by
  rw [List.getElem?_toArray]
  match i, hi with
  | 0, _ => rfl
  | 1, _ => rfl
  | 2, _ => rfl
  | 3, _ => rfl
  | n + 4, h => exact absurd h (by omega))
theorem TabT.wants (t : TabT w g h a b) (i : Nat) (hi : i < 4) : w.cell? ⟨h, i, none⟩ = some (.bool (tst (tC i) a b)) := cell_blk t.want (by
  rw [List.getElem?_toArray]
  match i, hi with
  | 0, _ => rfl
  | 1, _ => rfl
  | 2, _ => rfl
  | 3, _ => rfl
  | n + 4, h => exact absurd h (by omega))
end
def hd4 (i : Ins) : List Ins := [⟨32, 0, 0, 4⟩, ⟨7, 0, 0, 0⟩, ⟨32, 0, 0, 0⟩, i]
def retI (j : Nat) : Ins := ⟨6, 0, 0, (j : Int)⟩
def lstN (i : Ins) (n : Nat) : List Ins := hd4 i ++ (List.range n).map retI
theorem lstN_len (i : Ins) (n : Nat) : (lstN i n).length = 4 + n := by simp [lstN, hd4]; omega
theorem lstN_succ (i : Ins) (n : Nat) : flat (lstN i n) ++ flat [retI n] = flat (lstN i (n + 1)) := by
  rw [← flat_append]
  unfold lstN
  rw [List.range_succ, List.map_append, List.append_assoc]
  rfl
theorem lstN_all (i : Ins) : lstN i 256 = prT i := rfl
def hd3 : List Ins := [⟨32, 0, 0, 4⟩, ⟨7, 0, 0, 0⟩, ⟨32, 0, 0, 0⟩]
theorem prT_split (i : Ins) : flat (prT i) = flat hd3 ++ (flat [i] ++ flat rets) := by
  rw [← flat_append, ← flat_append]
  rfl
theorem prT_swap (i k : Ins) : flat hd3 ++ k.cs ++ (flat [i] ++ flat rets).drop 4 = flat (prT k) := by
  rw [prT_split, List.drop_append_of_le_length (by simp [flat, Ins.cs]), List.append_assoc]
  rfl
theorem prT_ok (i : Ins) (hi : i.ok) (hf : flt i 256 = 0) : ∀ x ∈ prT i, x.ok := (prT_good i hi hf).ok
theorem tst_ok (c jt jf k : Int) (h0 : 0 ≤ c) (h1 : c < 65536) (hjt : 0 ≤ jt ∧ jt < 256) (hjf : 0 ≤ jf ∧ jf < 256) (hk : U32 k) : Ins.ok ⟨c, jt, jf, k⟩ := ⟨⟨h0, h1⟩, hjt, hjf, hk⟩

set_option maxRecDepth 100000 in
set_option maxHeartbeats 4000000 in
theorem ktests_any (w : World) (a b jt jf : Int) (ha : U32 a) (hb : U32 b) (hjt : 0 ≤ jt ∧ jt < 256) (hjf : 0 ≤ jf ∧ jf < 256) :
    Calls Try.prog 5 #[.int .u32 a, .int .u32 b, .int .u8 jt, .int .u8 jf] w fun e w' => e = .returned (.bool true) ∧ Fr nob w w' := by
  obtain ⟨i0, hi0, hz0, hz1, hz2⟩ := info_parts info_insn
  have HBB := hide hb
  have HJT := hide hjt
  have HJF := hide hjf
  have HAA := hide ha
  have jw1 : IntKind.u32.wrap jt = jt := u32_wrap_id _ (by omega) (by omega)
  have jw2 : IntKind.u32.wrap jf = jf := u32_wrap_id _ (by omega) (by omega)
  clear ha hb hjt hjf
  go_enter Try.func5, Try.ntmps5
  go_wp2_with fail
  refine (record_any w a b HAA.out HBB.out q0 q0_u64).mono ?_
  rintro e w1 ⟨rfl, f1⟩
  have hr := rec_size a b q0
  have hw0 := rec_wd0 a b q0 HAA.out
  have hw4 := rec_wd4 a b q0 HBB.out
  obtain ⟨r, hre⟩ : ∃ r, r = recB a b q0 := ⟨_, rfl⟩
  rw [← hre] at hr hw0 hw4 ⊢
  clear hre
  have HR := hide hr
  have HW0 := hide hw0
  have HW4 := hide hw4
  have F1 := hide f1
  clear hr hw0 hw4 f1
  go_upto_region 4 with fail
  have T0 : TabT ((w1.alloc (.cells tCells.toArray 42)).alloc (.cells (tWant a b).toArray 43)) w1.heap.size (w1.heap.size + 1) a b := ⟨blk_alloc (heap_alloc_new w1 _), two_new w1 _ _⟩
  have F0 : Fr nob w ((w1.alloc (.cells tCells.toArray 42)).alloc (.cells (tWant a b).toArray 43)) := (F1.out.alloc _).alloc _
  have S0 : ((w1.alloc (.cells tCells.toArray 42)).alloc (.cells (tWant a b).toArray 43)).heap.size = w1.heap.size + 2 := by rw [World.size_alloc, World.size_alloc]
  obtain ⟨w9, hw9⟩ : ∃ w9, w9 = (w1.alloc (.cells tCells.toArray 42)).alloc (.cells (tWant a b).toArray 43) := ⟨_, rfl⟩
  change Code.wp _ _ _ _ ((w1.alloc (.cells tCells.toArray 42)).alloc (.cells (tWant a b).toArray 43))
  rw [← hw9]
  rw [← hw9] at T0 F0 S0
  obtain ⟨g, hg⟩ : ∃ g, g = w1.heap.size := ⟨_, rfl⟩
  obtain ⟨h, hh⟩ : ∃ h, h = w1.heap.size + 1 := ⟨_, rfl⟩
  obtain ⟨B, hB⟩ : ∃ B, B = w1.heap.size + 2 := ⟨_, rfl⟩
  have hgB : g < B := by omega
  have hhB : h < B := by omega
  have hwB : w.heap.size ≤ B := by have := F1.out.size; omega
  rw [← hB] at S0
  rw [← hh] at T0 ⊢
  rw [← hg] at T0 ⊢
  have TB := hide T0
  have FB := hide F0
  have SB := hide (Nat.le_of_eq S0.symm)
  clear hw9 T0 F0 F1 S0 hg hh hB
  generalize Value.agg #[Value.bool (a == b), Value.bool (decide (b < a)), Value.bool (decide (b ≤ a)), Value.bool (bits BinOp.and IntKind.u32 a b != 0)] = vW
  generalize Value.bool (a == b) = vW1
  generalize Value.bool (decide (b < a)) = vW2
  generalize Value.bool (decide (b ≤ a)) = vW3
  generalize Value.bool (bits BinOp.and IntKind.u32 a b != 0) = vW4
  go_wp2_with fail
  go_loopw [12] (fun y wr => ∃ i : Nat, i ≤ 4 ∧ y = .int .i64 i ∧ TabT wr g h a b ∧ B ≤ wr.heap.size ∧ Fr nob w wr) (fun y _ => 4 - (intOf y).toNat)
  case atStart => exact ⟨0, by omega, rfl, TB.out, SB.out, FB.out⟩
  case round =>
    clear TB FB SB
    obtain ⟨i, hi, rfl, tb, sb, f⟩ := hrel
    by_cases h4 : i < 4
    · have hi4 : (i : Int) < 4 := by omega
      have hin : (0 : Int) ≤ (i : Int) := by omega
      have cc := tb.code i h4
      have cw := tb.wants i h4
      have hcm := hide (tC_mem i h4)
      obtain ⟨c, hce⟩ : ∃ c, c = tC i := ⟨_, rfl⟩
      obtain ⟨v, hvv⟩ : ∃ v, v = tst c a b := ⟨_, rfl⟩
      rw [← hce] at cc cw hcm
      rw [← hvv] at cw
      obtain ⟨_, _, hc0, hc1⟩ := tst_knd c hcm.out
      have e8 : IntKind.u16.wrap (c + 8) = c + 8 := u16_wrap_id _ (by omega) (by omega)
      have HCE := hide hce
      have HVV := hide hvv
      have hgl := World.block_lt_of_cell? wr _ cc
      have hhl := World.block_lt_of_cell? wr _ cw
      have o0 : Own (wr.alloc (.cells (flat (hd4 ⟨c + 8, jt, jf, 0⟩)).toArray 32)) 32 4 (some ⟨wr.heap.size, 0, none⟩) 4 4 (flat (hd4 ⟨c + 8, jt, jf, 0⟩)) :=
        ⟨rfl, .inr ⟨wr.heap.size, 4, _, rfl, Nat.zero_le _, heap_alloc_new wr _, Nat.le_refl _, by unfold maxLen; omega, rfl, rfl⟩⟩
      have O0 := hide o0
      have FX := hide (f.alloc (.cells (flat (hd4 ⟨c + 8, jt, jf, 0⟩)).toArray 32))
      have TX := hide (tb.fr ((Fr.refl nob wr).alloc (.cells (flat (hd4 ⟨c + 8, jt, jf, 0⟩)).toArray 32)))
      clear hce hvv o0 tb f
      go_wp2_with fail
      go_loopw [13, 14] (fun ls y wr => ∃ (n g' cap' : Nat), n ≤ 256 ∧ y = .int .i64 n ∧ ls = .slice (some ⟨g', 0, none⟩) (4 + n) cap' ∧ B ≤ g' ∧ Own wr 32 4 (some ⟨g', 0, none⟩) (4 + n) cap' (flat (lstN ⟨c + 8, jt, jf, 0⟩ n)) ∧ TabT wr g h a b ∧ Fr nob w wr) (fun _ y _ => 256 - (intOf y).toNat)
      case atStart => exact ⟨0, wr.heap.size, 4, by omega, rfl, rfl, sb, O0.out, TX.out, FX.out⟩
      case round =>
        clear O0 FX TX cc cw hgl hhl sb
        rename World => wq
        obtain ⟨n, g', cap', hn, rfl, rfl, hBg, o, tb, f⟩ := hrel
        by_cases hn2 : n < 256
        · have hni : (n : Int) < 256 := by omega
          have hnw : IntKind.u32.wrap (n : Int) = (n : Int) := u32_wrap_id _ (by omega) (by omega)
          have HO := hide (o.alloc (.cells (flat [retI n]).toArray 32))
          have HF := hide (f.alloc (.cells (flat [retI n]).toArray 32))
          have HTB := hide (tb.fr ((Fr.refl nob wq).alloc (.cells (flat [retI n]).toArray 32)))
          have hsz := f.size
          have hgq : g' < wq.heap.size := own_lt o (by simp [bk, Value.ownBlock])
          clear o tb f
          go_wp2_with (at_builtin; refine wpList_append_keep _ rfl _ _ 22 rfl 32 i0 _ 4 8 Try.underlying22 hi0 hz0 hz1 hz2 rfl (by decide) _ _ _ (flat (lstN ⟨c + 8, jt, jf, 0⟩ n)) rfl HO.out ⟨wq.heap.size, 0, none⟩ 1 1 (flat [retI n]) rfl rfl ?c1 (flat_oneCell _) (by decide) ?c3 ?c4 (wq.heap.size + 1) (World.size_alloc _ _) ?_)
          case c1 => exact World.news_of_block (heap_alloc_new wq _)
          case c3 => unfold maxLen; omega
          case c4 => omega
          intro g2 c2 w5 o5 _ f5 hat
          have F6 := hide (HF.out.step f5 (fun j hj e => by simp only [bk, Value.ownBlock, Option.some.injEq] at e; omega))
          have T6 := hide (HTB.out.frS f5 (by simp only [bk, Value.ownBlock, Option.some.injEq]; omega) (by simp only [bk, Value.ownBlock, Option.some.injEq]; omega))
          have hB2 : B ≤ g2 := by
            rcases hat with e | e
            · simp only [bk, Value.ownBlock, Option.some.injEq] at e; omega
            · omega
          rw [lstN_succ] at o5
          have O6 := hide o5
          clear o5 f5 hat HO HF HTB
          go_wp2
          refine ⟨⟨n + 1, g2, c2, by omega, by go_num, rfl, hB2, O6.out, T6.out, F6.out⟩, ?_⟩
          simp [intOf]; omega
        · obtain rfl : n = 256 := by omega
          have hgq : g' < wq.heap.size := own_lt o (by simp [bk, Value.ownBlock])
          have cc := tb.code i h4
          have cw := tb.wants i h4
          rw [← HCE.out] at cc cw
          rw [← HVV.out] at cw
          have hgl := World.block_lt_of_cell? wq _ cc
          have hhl := World.block_lt_of_cell? wq _ cw
          rw [lstN_all] at o
          obtain ⟨hkc, hk8, _, _⟩ := tst_knd c hcm.out
          have okX := tst_ok (c + 8) jt jf 0 (by omega) (by omega) HJT.out HJF.out ⟨by decide, by decide⟩
          have okK := tst_ok c jt jf b (by omega) (by omega) HJT.out HJF.out HBB.out
          have flX := tst_flt (c + 8) jt jf 0 hk8 HJT.out.2 HJF.out.2
          have flK := tst_flt c jt jf b hkc HJT.out.2 HJF.out.2
          obtain ⟨hA, b1, b2⟩ := prT_X c jt jf hcm.out HJT.out HJF.out r HR.out
          rw [HW0.out, HW4.out, ← HVV.out] at hA
          obtain ⟨hA', b1', b2'⟩ := prT_K c jt jf b hcm.out HJT.out HJF.out HBB.out r HR.out
          rw [HW0.out, ← HVV.out] at hA'
          have hvX : View wq (some ⟨g', 0, none⟩) (flat (prT ⟨c + 8, jt, jf, 0⟩)) := own_view o (by rw [List.take_of_length_le (Nat.le_refl _)])
          have hX := verdict_any wq (some ⟨g', 0, none⟩) cap' (prT ⟨c + 8, jt, jf, 0⟩) hvX (prT_ok _ okX flX) r _ _ hA b1 (by rw [prT_len]; exact b2)
          rw [prT_len] at hX
          have HX := hide hX
          have HO := hide o
          have HTB := hide tb
          have HF := hide f
          have HA' := hide hA'
          have HB1 := hide b1'
          have HB2 := hide b2'
          have HOK := hide okK
          have HFL := hide flK
          clear hA b1 b2 hA' b1' b2' hvX hX okX okK flX flK o tb f hkc hk8 hn2
          cases v with
          | true =>
            simp only [if_true] at HX HA'
            go_wp2_with fail
            refine HX.out.mono ?_
            rintro e w5 ⟨rfl, f5⟩
            have o5 := own_fr HO.out f5 (fun _ _ h => h)
            have tb5 := HTB.out.fr f5
            have F5 := hide (HF.out.trans f5)
            have c5 := tb5.code i h4
            rw [← HCE.out] at c5
            have hgl5 := World.block_lt_of_cell? w5 _ c5
            have hg5 : g' < w5.heap.size := Nat.lt_of_lt_of_le hgq f5.size
            have hfz : ∀ z, w5.frozen? ⟨g', z, none⟩ = false := fun z => o5.frozenAt z
            have hl5 := own_len o5
            have hgg : g ≠ g' := by omega
            have hhg : h ≠ g' := by omega
            obtain ⟨u0, hu0⟩ : ∃ u, w5.cell? ⟨g', 12, none⟩ = some u := ⟨_, own_cell o5 12 (by omega)⟩
            obtain ⟨u1, hu1⟩ : ∃ u, w5.cell? ⟨g', 13, none⟩ = some u := ⟨_, own_cell o5 13 (by omega)⟩
            obtain ⟨u2, hu2⟩ : ∃ u, w5.cell? ⟨g', 14, none⟩ = some u := ⟨_, own_cell o5 14 (by omega)⟩
            obtain ⟨u3, hu3⟩ : ∃ u, w5.cell? ⟨g', 15, none⟩ = some u := ⟨_, own_cell o5 15 (by omega)⟩
            rw [prT_split] at o5
            have o6 := own_set4 (p := 12) (q := 13) (r := 14) (t := 15) o5 (by simp [flat, Ins.cs]) rfl rfl rfl rfl (.int .u16 c) (.int .u8 jt) (.int .u8 jf) (.int .u32 b)
            rw [show [Value.int .u16 c, Value.int .u8 jt, Value.int .u8 jf, Value.int .u32 b] = (⟨c, jt, jf, b⟩ : Ins).cs from rfl, prT_swap] at o6
            have f6 : Fr (only g') w5 ((((w5.setCell ⟨g', 12, none⟩ (.int .u16 c)).setCell ⟨g', 13, none⟩ (.int .u8 jt)).setCell ⟨g', 14, none⟩ (.int .u8 jf)).setCell ⟨g', 15, none⟩ (.int .u32 b)) := only_set (only_set (only_set (only_set (Fr.refl _ w5) 12 _) 13 _) 14 _) 15 _
            have tb6 := tb5.frS f6 hgg hhg
            have F6 := hide (fr_new F5.out (by omega) f6)
            have hvK : View ((((w5.setCell ⟨g', 12, none⟩ (.int .u16 c)).setCell ⟨g', 13, none⟩ (.int .u8 jt)).setCell ⟨g', 14, none⟩ (.int .u8 jf)).setCell ⟨g', 15, none⟩ (.int .u32 b)) (some ⟨g', 0, none⟩) (flat (prT ⟨c, jt, jf, b⟩)) := own_view o6 (by rw [List.take_of_length_le (Nat.le_refl _)])
            have hX2 := verdict_any _ (some ⟨g', 0, none⟩) cap' (prT ⟨c, jt, jf, b⟩) hvK (prT_ok _ HOK.out HFL.out) r _ _ HA'.out HB1.out (by rw [prT_len]; exact HB2.out)
            rw [prT_len] at hX2
            have HX2 := hide hX2
            have TB6 := hide tb6
            have S6 := hide f6.size
            clear f5 o5 tb5 o6 f6 tb6 hvK hX2 hl5 hgg hhg
            go_wp2_with fail
            refine HX2.out.mono ?_
            rintro e w7 ⟨rfl, f7⟩
            have F7 := hide (F6.out.trans f7)
            have T7 := hide (TB6.out.fr f7)
            have hB7 : B ≤ w7.heap.size := by have := f7.size; have := S6.out; omega
            have HB7 := hide hB7
            clear f7 hB7
            go_wp2
            refine ⟨⟨i + 1, by omega, by go_num, T7.out, HB7.out, F7.out⟩, ?_⟩
            simp [intOf]; omega
          | false =>
            simp only [Bool.false_eq_true, if_false] at HX HA'
            go_wp2_with fail
            refine HX.out.mono ?_
            rintro e w5 ⟨rfl, f5⟩
            have o5 := own_fr HO.out f5 (fun _ _ h => h)
            have tb5 := HTB.out.fr f5
            have F5 := hide (HF.out.trans f5)
            have c5 := tb5.code i h4
            rw [← HCE.out] at c5
            have hgl5 := World.block_lt_of_cell? w5 _ c5
            have hg5 : g' < w5.heap.size := Nat.lt_of_lt_of_le hgq f5.size
            have hfz : ∀ z, w5.frozen? ⟨g', z, none⟩ = false := fun z => o5.frozenAt z
            have hl5 := own_len o5
            have hgg : g ≠ g' := by omega
            have hhg : h ≠ g' := by omega
            obtain ⟨u0, hu0⟩ : ∃ u, w5.cell? ⟨g', 12, none⟩ = some u := ⟨_, own_cell o5 12 (by omega)⟩
            obtain ⟨u1, hu1⟩ : ∃ u, w5.cell? ⟨g', 13, none⟩ = some u := ⟨_, own_cell o5 13 (by omega)⟩
            obtain ⟨u2, hu2⟩ : ∃ u, w5.cell? ⟨g', 14, none⟩ = some u := ⟨_, own_cell o5 14 (by omega)⟩
            obtain ⟨u3, hu3⟩ : ∃ u, w5.cell? ⟨g', 15, none⟩ = some u := ⟨_, own_cell o5 15 (by omega)⟩
            rw [prT_split] at o5
            have o6 := own_set4 (p := 12) (q := 13) (r := 14) (t := 15) o5 (by simp [flat, Ins.cs]) rfl rfl rfl rfl (.int .u16 c) (.int .u8 jt) (.int .u8 jf) (.int .u32 b)
            rw [show [Value.int .u16 c, Value.int .u8 jt, Value.int .u8 jf, Value.int .u32 b] = (⟨c, jt, jf, b⟩ : Ins).cs from rfl, prT_swap] at o6
            have f6 : Fr (only g') w5 ((((w5.setCell ⟨g', 12, none⟩ (.int .u16 c)).setCell ⟨g', 13, none⟩ (.int .u8 jt)).setCell ⟨g', 14, none⟩ (.int .u8 jf)).setCell ⟨g', 15, none⟩ (.int .u32 b)) := only_set (only_set (only_set (only_set (Fr.refl _ w5) 12 _) 13 _) 14 _) 15 _
            have tb6 := tb5.frS f6 hgg hhg
            have F6 := hide (fr_new F5.out (by omega) f6)
            have hvK : View ((((w5.setCell ⟨g', 12, none⟩ (.int .u16 c)).setCell ⟨g', 13, none⟩ (.int .u8 jt)).setCell ⟨g', 14, none⟩ (.int .u8 jf)).setCell ⟨g', 15, none⟩ (.int .u32 b)) (some ⟨g', 0, none⟩) (flat (prT ⟨c, jt, jf, b⟩)) := own_view o6 (by rw [List.take_of_length_le (Nat.le_refl _)])
            have hX2 := verdict_any _ (some ⟨g', 0, none⟩) cap' (prT ⟨c, jt, jf, b⟩) hvK (prT_ok _ HOK.out HFL.out) r _ _ HA'.out HB1.out (by rw [prT_len]; exact HB2.out)
            rw [prT_len] at hX2
            have HX2 := hide hX2
            have TB6 := hide tb6
            have S6 := hide f6.size
            clear f5 o5 tb5 o6 f6 tb6 hvK hX2 hl5 hgg hhg
            go_wp2_with fail
            refine HX2.out.mono ?_
            rintro e w7 ⟨rfl, f7⟩
            have F7 := hide (F6.out.trans f7)
            have T7 := hide (TB6.out.fr f7)
            have hB7 : B ≤ w7.heap.size := by have := f7.size; have := S6.out; omega
            have HB7 := hide hB7
            clear f7 hB7
            go_wp2
            refine ⟨⟨i + 1, by omega, by go_num, T7.out, HB7.out, F7.out⟩, ?_⟩
            simp [intOf]; omega
    · have F := hide f
      obtain rfl : i = 4 := by omega
      clear tb f sb
      go_wp2
      go_ret
      exact ⟨rfl, F.out⟩
#print axioms ktests_any
end Go.Proofs.Ytjgcfffepkmojaa
