import Derived.Test.YtjgcfffepkmojaaGreatPMach
namespace Go.Proofs.YtjgcfffepkmojaaGreat
open Go.RowKit
set_option linter.unusedVariables false

set_option maxRecDepth 100000 in
set_option maxHeartbeats 2000000 in
theorem p_shl (w : World) (g : Nat) (m : Mc) (r : ByteArray) (hb : PB w g m r) (i : Ins) (hx : U32 (opd i m)) : PT 101 w g i r { m with a := m.a * 2 ^ ((opd i m).tmod 32).toNat % 4294967296 } := by
  have p1 : (0 : Int) ≤ (opd i m).tmod 32 := Int.tmod_nonneg _ hx.1
  have p2 : (opd i m).tmod 32 < 32 := Int.tmod_lt_of_pos _ (by decide)
  have z := hb.fz
  have hg := hb.lt
  have c0 := hb.cell 0 (.int .u32 m.a) rfl
  have c1 := hb.cell 1 (.int .u32 m.x) rfl
  have HB := hide hb
  clear hb
  unfold PT
  go_enter Tryz.func101, Tryz.ntmps101
  go_wp2_with fail
  have b1 : PB (w.alloc (.cells #[.int .u16 i.code, .int .u8 i.jt, .int .u8 i.jf, .int .u32 i.k] 29)) g m r := HB.out.alloc _
  have f1 : Fr nob w (w.alloc (.cells #[.int .u16 i.code, .int .u8 i.jt, .int .u8 i.jf, .int .u32 i.k] 29)) := (Fr.refl _ w).alloc _
  have k1 : (w.alloc (.cells #[.int .u16 i.code, .int .u8 i.jt, .int .u8 i.jf, .int .u32 i.k] 29)).heap[w.heap.size]? = some (.cells #[.int .u16 i.code, .int .u8 i.jt, .int .u8 i.jf, .int .u32 i.k] 29 (0, 0)) := heap_alloc_new w _
  have s1 := World.size_alloc w (.cells #[.int .u16 i.code, .int .u8 i.jt, .int .u8 i.jf, .int .u32 i.k] 29)
  clear z hg c0 c1
  obtain ⟨w1, hw1⟩ : ∃ w1, w1 = w.alloc (.cells #[.int .u16 i.code, .int .u8 i.jt, .int .u8 i.jf, .int .u32 i.k] 29) := ⟨_, rfl⟩
  rw [← hw1] at b1 f1 k1 s1 ⊢
  clear hw1
  have z := b1.fz
  have hg := b1.lt
  have c0 := b1.cell 0 (.int .u32 m.a) rfl
  have c1 := b1.cell 1 (.int .u32 m.x) rfl
  have v0 : w1.cell? ⟨w.heap.size, 0, none⟩ = some (.int .u16 i.code) := cell_blk k1 rfl
  have v1 : w1.cell? ⟨w.heap.size, 1, none⟩ = some (.int .u8 i.jt) := cell_blk k1 rfl
  have v2 : w1.cell? ⟨w.heap.size, 2, none⟩ = some (.int .u8 i.jf) := cell_blk k1 rfl
  have v3 : w1.cell? ⟨w.heap.size, 3, none⟩ = some (.int .u32 i.k) := cell_blk k1 rfl
  have B1 := hide b1
  have F1 := hide f1
  have K1 := hide k1
  clear b1 f1 k1
  go_region_with (go_at_call 121; refine (distance_any _ g m r (by exact B1.out) i).mono ?_; rintro e w2 ⟨rfl, f2'⟩; have f2 : Fr nob w1 w2 := ⟨f2'.os, f2'.tape, f2'.output, f2'.size, f2'.block⟩; have b2 := B1.out.fr f2 (fun h => h); have d0 := b2.cell 0 (.int .u32 m.a) rfl; have z2 := b2.fz; have hg2 := b2.lt; have B2 := hide b2; have F2 := hide (F1.out.trans f2); clear b2 f2 f2')
  all_goals (
    go_end0
    exact ⟨rfl, B2.out.set 0 _ { m with a := m.a * 2 ^ ((opd i m).tmod 32).toNat % 4294967296 } rfl, only_set (toOnly g F2.out) 0 _⟩)

set_option maxRecDepth 100000 in
set_option maxHeartbeats 2000000 in
theorem p_shr (w : World) (g : Nat) (m : Mc) (r : ByteArray) (hb : PB w g m r) (i : Ins) (hx : U32 (opd i m)) : PT 102 w g i r { m with a := m.a / 2 ^ ((opd i m).tmod 32).toNat } := by
  have p1 : (0 : Int) ≤ (opd i m).tmod 32 := Int.tmod_nonneg _ hx.1
  have p2 : (opd i m).tmod 32 < 32 := Int.tmod_lt_of_pos _ (by decide)
  have z := hb.fz
  have hg := hb.lt
  have c0 := hb.cell 0 (.int .u32 m.a) rfl
  have c1 := hb.cell 1 (.int .u32 m.x) rfl
  have HB := hide hb
  clear hb
  unfold PT
  go_enter Tryz.func102, Tryz.ntmps102
  go_wp2_with fail
  have b1 : PB (w.alloc (.cells #[.int .u16 i.code, .int .u8 i.jt, .int .u8 i.jf, .int .u32 i.k] 29)) g m r := HB.out.alloc _
  have f1 : Fr nob w (w.alloc (.cells #[.int .u16 i.code, .int .u8 i.jt, .int .u8 i.jf, .int .u32 i.k] 29)) := (Fr.refl _ w).alloc _
  have k1 : (w.alloc (.cells #[.int .u16 i.code, .int .u8 i.jt, .int .u8 i.jf, .int .u32 i.k] 29)).heap[w.heap.size]? = some (.cells #[.int .u16 i.code, .int .u8 i.jt, .int .u8 i.jf, .int .u32 i.k] 29 (0, 0)) := heap_alloc_new w _
  have s1 := World.size_alloc w (.cells #[.int .u16 i.code, .int .u8 i.jt, .int .u8 i.jf, .int .u32 i.k] 29)
  clear z hg c0 c1
  obtain ⟨w1, hw1⟩ : ∃ w1, w1 = w.alloc (.cells #[.int .u16 i.code, .int .u8 i.jt, .int .u8 i.jf, .int .u32 i.k] 29) := ⟨_, rfl⟩
  rw [← hw1] at b1 f1 k1 s1 ⊢
  clear hw1
  have z := b1.fz
  have hg := b1.lt
  have c0 := b1.cell 0 (.int .u32 m.a) rfl
  have c1 := b1.cell 1 (.int .u32 m.x) rfl
  have v0 : w1.cell? ⟨w.heap.size, 0, none⟩ = some (.int .u16 i.code) := cell_blk k1 rfl
  have v1 : w1.cell? ⟨w.heap.size, 1, none⟩ = some (.int .u8 i.jt) := cell_blk k1 rfl
  have v2 : w1.cell? ⟨w.heap.size, 2, none⟩ = some (.int .u8 i.jf) := cell_blk k1 rfl
  have v3 : w1.cell? ⟨w.heap.size, 3, none⟩ = some (.int .u32 i.k) := cell_blk k1 rfl
  have B1 := hide b1
  have F1 := hide f1
  have K1 := hide k1
  clear b1 f1 k1
  go_region_with (go_at_call 121; refine (distance_any _ g m r (by exact B1.out) i).mono ?_; rintro e w2 ⟨rfl, f2'⟩; have f2 : Fr nob w1 w2 := ⟨f2'.os, f2'.tape, f2'.output, f2'.size, f2'.block⟩; have b2 := B1.out.fr f2 (fun h => h); have d0 := b2.cell 0 (.int .u32 m.a) rfl; have z2 := b2.fz; have hg2 := b2.lt; have B2 := hide b2; have F2 := hide (F1.out.trans f2); clear b2 f2 f2')
  all_goals (
    go_end0
    exact ⟨rfl, B2.out.set 0 _ { m with a := m.a / 2 ^ ((opd i m).tmod 32).toNat } rfl, only_set (toOnly g F2.out) 0 _⟩)

set_option maxRecDepth 100000 in
set_option maxHeartbeats 2000000 in
theorem p_loadCell (w : World) (g : Nat) (m : Mc) (r : ByteArray) (hb : PB w g m r) (i : Ins) (kn : Nat) (hkn : i.k = (kn : Int)) (hk16 : kn < 16) : PT 87 w g i r { m with a := m.c kn } := by
  have HKN := hide hkn
  clear hkn
  have z := hb.fz
  have hg := hb.lt
  have c0 := hb.cell 0 (.int .u32 m.a) rfl
  have c1 := hb.cell 1 (.int .u32 m.x) rfl
  have HB := hide hb
  clear hb
  unfold PT
  go_enter Tryz.func87, Tryz.ntmps87
  go_wp2_with fail
  have b1 : PB (w.alloc (.cells #[.int .u16 i.code, .int .u8 i.jt, .int .u8 i.jf, .int .u32 i.k] 29)) g m r := HB.out.alloc _
  have f1 : Fr nob w (w.alloc (.cells #[.int .u16 i.code, .int .u8 i.jt, .int .u8 i.jf, .int .u32 i.k] 29)) := (Fr.refl _ w).alloc _
  have k1 : (w.alloc (.cells #[.int .u16 i.code, .int .u8 i.jt, .int .u8 i.jf, .int .u32 i.k] 29)).heap[w.heap.size]? = some (.cells #[.int .u16 i.code, .int .u8 i.jt, .int .u8 i.jf, .int .u32 i.k] 29 (0, 0)) := heap_alloc_new w _
  have s1 := World.size_alloc w (.cells #[.int .u16 i.code, .int .u8 i.jt, .int .u8 i.jf, .int .u32 i.k] 29)
  clear z hg c0 c1
  obtain ⟨w1, hw1⟩ : ∃ w1, w1 = w.alloc (.cells #[.int .u16 i.code, .int .u8 i.jt, .int .u8 i.jf, .int .u32 i.k] 29) := ⟨_, rfl⟩
  rw [← hw1] at b1 f1 k1 s1 ⊢
  clear hw1
  have z := b1.fz
  have hg := b1.lt
  have c0 := b1.cell 0 (.int .u32 m.a) rfl
  have c1 := b1.cell 1 (.int .u32 m.x) rfl
  have v0 : w1.cell? ⟨w.heap.size, 0, none⟩ = some (.int .u16 i.code) := cell_blk k1 rfl
  have v1 : w1.cell? ⟨w.heap.size, 1, none⟩ = some (.int .u8 i.jt) := cell_blk k1 rfl
  have v2 : w1.cell? ⟨w.heap.size, 2, none⟩ = some (.int .u8 i.jf) := cell_blk k1 rfl
  have v3 : w1.cell? ⟨w.heap.size, 3, none⟩ = some (.int .u32 (kn : Int)) := by rw [← HKN.out]; exact cell_blk k1 rfl
  have B1 := hide b1
  have F1 := hide f1
  have K1 := hide k1
  clear b1 f1 k1
  have ck := B1.out.cell (2 + kn) (.int .u32 (m.c kn)) (pms_cell m r kn hk16)
  have hk1 : (kn : Int) < 16 := by omega
  have hk0 : (0 : Int) ≤ (kn : Int) := by omega
  go_still_tail 10, (by kernel_rfl)
  change wpList _ _ _ _ _ (World.drew _)
  go_wp2
  go_end0
  exact ⟨rfl, B1.out.set 0 _ { m with a := m.c kn } rfl, (only_set (toOnly g F1.out) 0 _).drew⟩

set_option maxRecDepth 100000 in
set_option maxHeartbeats 2000000 in
theorem p_loadX (w : World) (g : Nat) (m : Mc) (r : ByteArray) (hb : PB w g m r) (i : Ins) (kn : Nat) (hkn : i.k = (kn : Int)) (hk16 : kn < 16) : PT 88 w g i r { m with x := m.c kn } := by
  have HKN := hide hkn
  clear hkn
  have z := hb.fz
  have hg := hb.lt
  have c0 := hb.cell 0 (.int .u32 m.a) rfl
  have c1 := hb.cell 1 (.int .u32 m.x) rfl
  have HB := hide hb
  clear hb
  unfold PT
  go_enter Tryz.func88, Tryz.ntmps88
  go_wp2_with fail
  have b1 : PB (w.alloc (.cells #[.int .u16 i.code, .int .u8 i.jt, .int .u8 i.jf, .int .u32 i.k] 29)) g m r := HB.out.alloc _
  have f1 : Fr nob w (w.alloc (.cells #[.int .u16 i.code, .int .u8 i.jt, .int .u8 i.jf, .int .u32 i.k] 29)) := (Fr.refl _ w).alloc _
  have k1 : (w.alloc (.cells #[.int .u16 i.code, .int .u8 i.jt, .int .u8 i.jf, .int .u32 i.k] 29)).heap[w.heap.size]? = some (.cells #[.int .u16 i.code, .int .u8 i.jt, .int .u8 i.jf, .int .u32 i.k] 29 (0, 0)) := heap_alloc_new w _
  have s1 := World.size_alloc w (.cells #[.int .u16 i.code, .int .u8 i.jt, .int .u8 i.jf, .int .u32 i.k] 29)
  clear z hg c0 c1
  obtain ⟨w1, hw1⟩ : ∃ w1, w1 = w.alloc (.cells #[.int .u16 i.code, .int .u8 i.jt, .int .u8 i.jf, .int .u32 i.k] 29) := ⟨_, rfl⟩
  rw [← hw1] at b1 f1 k1 s1 ⊢
  clear hw1
  have z := b1.fz
  have hg := b1.lt
  have c0 := b1.cell 0 (.int .u32 m.a) rfl
  have c1 := b1.cell 1 (.int .u32 m.x) rfl
  have v0 : w1.cell? ⟨w.heap.size, 0, none⟩ = some (.int .u16 i.code) := cell_blk k1 rfl
  have v1 : w1.cell? ⟨w.heap.size, 1, none⟩ = some (.int .u8 i.jt) := cell_blk k1 rfl
  have v2 : w1.cell? ⟨w.heap.size, 2, none⟩ = some (.int .u8 i.jf) := cell_blk k1 rfl
  have v3 : w1.cell? ⟨w.heap.size, 3, none⟩ = some (.int .u32 (kn : Int)) := by rw [← HKN.out]; exact cell_blk k1 rfl
  have B1 := hide b1
  have F1 := hide f1
  have K1 := hide k1
  clear b1 f1 k1
  have ck := B1.out.cell (2 + kn) (.int .u32 (m.c kn)) (pms_cell m r kn hk16)
  have hk1 : (kn : Int) < 16 := by omega
  have hk0 : (0 : Int) ≤ (kn : Int) := by omega
  go_still_tail 10, (by kernel_rfl)
  change wpList _ _ _ _ _ (World.drew _)
  go_wp2
  go_end0
  exact ⟨rfl, B1.out.set 1 _ { m with x := m.c kn } rfl, (only_set (toOnly g F1.out) 1 _).drew⟩

set_option maxRecDepth 100000 in
set_option maxHeartbeats 2000000 in
theorem p_store (w : World) (g : Nat) (m : Mc) (r : ByteArray) (hb : PB w g m r) (i : Ins) (kn : Nat) (hkn : i.k = (kn : Int)) (hk16 : kn < 16) : PT 91 w g i r { m with c := putc m.c kn m.a } := by
  have HKN := hide hkn
  clear hkn
  have z := hb.fz
  have hg := hb.lt
  have c0 := hb.cell 0 (.int .u32 m.a) rfl
  have c1 := hb.cell 1 (.int .u32 m.x) rfl
  have HB := hide hb
  clear hb
  unfold PT
  go_enter Tryz.func91, Tryz.ntmps91
  go_wp2_with fail
  have b1 : PB (w.alloc (.cells #[.int .u16 i.code, .int .u8 i.jt, .int .u8 i.jf, .int .u32 i.k] 29)) g m r := HB.out.alloc _
  have f1 : Fr nob w (w.alloc (.cells #[.int .u16 i.code, .int .u8 i.jt, .int .u8 i.jf, .int .u32 i.k] 29)) := (Fr.refl _ w).alloc _
  have k1 : (w.alloc (.cells #[.int .u16 i.code, .int .u8 i.jt, .int .u8 i.jf, .int .u32 i.k] 29)).heap[w.heap.size]? = some (.cells #[.int .u16 i.code, .int .u8 i.jt, .int .u8 i.jf, .int .u32 i.k] 29 (0, 0)) := heap_alloc_new w _
  have s1 := World.size_alloc w (.cells #[.int .u16 i.code, .int .u8 i.jt, .int .u8 i.jf, .int .u32 i.k] 29)
  clear z hg c0 c1
  obtain ⟨w1, hw1⟩ : ∃ w1, w1 = w.alloc (.cells #[.int .u16 i.code, .int .u8 i.jt, .int .u8 i.jf, .int .u32 i.k] 29) := ⟨_, rfl⟩
  rw [← hw1] at b1 f1 k1 s1 ⊢
  clear hw1
  have z := b1.fz
  have hg := b1.lt
  have c0 := b1.cell 0 (.int .u32 m.a) rfl
  have c1 := b1.cell 1 (.int .u32 m.x) rfl
  have v0 : w1.cell? ⟨w.heap.size, 0, none⟩ = some (.int .u16 i.code) := cell_blk k1 rfl
  have v1 : w1.cell? ⟨w.heap.size, 1, none⟩ = some (.int .u8 i.jt) := cell_blk k1 rfl
  have v2 : w1.cell? ⟨w.heap.size, 2, none⟩ = some (.int .u8 i.jf) := cell_blk k1 rfl
  have v3 : w1.cell? ⟨w.heap.size, 3, none⟩ = some (.int .u32 (kn : Int)) := by rw [← HKN.out]; exact cell_blk k1 rfl
  have B1 := hide b1
  have F1 := hide f1
  have K1 := hide k1
  clear b1 f1 k1
  have ck := B1.out.cell (2 + kn) (.int .u32 (m.c kn)) (pms_cell m r kn hk16)
  have hk1 : (kn : Int) < 16 := by omega
  have hk0 : (0 : Int) ≤ (kn : Int) := by omega
  go_still_tail 10, (by kernel_rfl)
  change wpList _ _ _ _ _ (World.drew _)
  go_wp2
  go_end0
  exact ⟨rfl, B1.out.set (2 + kn) _ _ (pms_put m r kn hk16 m.a), (only_set (toOnly g F1.out) (2 + kn) _).drew⟩

set_option maxRecDepth 100000 in
set_option maxHeartbeats 2000000 in
theorem p_storeX (w : World) (g : Nat) (m : Mc) (r : ByteArray) (hb : PB w g m r) (i : Ins) (kn : Nat) (hkn : i.k = (kn : Int)) (hk16 : kn < 16) : PT 92 w g i r { m with c := putc m.c kn m.x } := by
  have HKN := hide hkn
  clear hkn
  have z := hb.fz
  have hg := hb.lt
  have c0 := hb.cell 0 (.int .u32 m.a) rfl
  have c1 := hb.cell 1 (.int .u32 m.x) rfl
  have HB := hide hb
  clear hb
  unfold PT
  go_enter Tryz.func92, Tryz.ntmps92
  go_wp2_with fail
  have b1 : PB (w.alloc (.cells #[.int .u16 i.code, .int .u8 i.jt, .int .u8 i.jf, .int .u32 i.k] 29)) g m r := HB.out.alloc _
  have f1 : Fr nob w (w.alloc (.cells #[.int .u16 i.code, .int .u8 i.jt, .int .u8 i.jf, .int .u32 i.k] 29)) := (Fr.refl _ w).alloc _
  have k1 : (w.alloc (.cells #[.int .u16 i.code, .int .u8 i.jt, .int .u8 i.jf, .int .u32 i.k] 29)).heap[w.heap.size]? = some (.cells #[.int .u16 i.code, .int .u8 i.jt, .int .u8 i.jf, .int .u32 i.k] 29 (0, 0)) := heap_alloc_new w _
  have s1 := World.size_alloc w (.cells #[.int .u16 i.code, .int .u8 i.jt, .int .u8 i.jf, .int .u32 i.k] 29)
  clear z hg c0 c1
  obtain ⟨w1, hw1⟩ : ∃ w1, w1 = w.alloc (.cells #[.int .u16 i.code, .int .u8 i.jt, .int .u8 i.jf, .int .u32 i.k] 29) := ⟨_, rfl⟩
  rw [← hw1] at b1 f1 k1 s1 ⊢
  clear hw1
  have z := b1.fz
  have hg := b1.lt
  have c0 := b1.cell 0 (.int .u32 m.a) rfl
  have c1 := b1.cell 1 (.int .u32 m.x) rfl
  have v0 : w1.cell? ⟨w.heap.size, 0, none⟩ = some (.int .u16 i.code) := cell_blk k1 rfl
  have v1 : w1.cell? ⟨w.heap.size, 1, none⟩ = some (.int .u8 i.jt) := cell_blk k1 rfl
  have v2 : w1.cell? ⟨w.heap.size, 2, none⟩ = some (.int .u8 i.jf) := cell_blk k1 rfl
  have v3 : w1.cell? ⟨w.heap.size, 3, none⟩ = some (.int .u32 (kn : Int)) := by rw [← HKN.out]; exact cell_blk k1 rfl
  have B1 := hide b1
  have F1 := hide f1
  have K1 := hide k1
  clear b1 f1 k1
  have ck := B1.out.cell (2 + kn) (.int .u32 (m.c kn)) (pms_cell m r kn hk16)
  have hk1 : (kn : Int) < 16 := by omega
  have hk0 : (0 : Int) ≤ (kn : Int) := by omega
  go_still_tail 10, (by kernel_rfl)
  change wpList _ _ _ _ _ (World.drew _)
  go_wp2
  go_end0
  exact ⟨rfl, B1.out.set (2 + kn) _ _ (pms_put m r kn hk16 m.x), (only_set (toOnly g F1.out) (2 + kn) _).drew⟩
end Go.Proofs.YtjgcfffepkmojaaGreat
