import Derived.StillTailTactics
import Derived.Test.YtjgcfffepkmojaaGreatMach
import Derived.Deep.DeepCutAuto
namespace Go.Proofs.YtjgcfffepkmojaaGreat
open Go.RowKit
set_option linter.unusedVariables false

theorem mcs_cell (m : Mc) (k : Nat) (h : k < 16) : (mcs m)[2 + k]? = some (.int .u32 (m.c k)) := by
  match k, h with
  | 0, _ => rfl
  | 1, _ => rfl
  | 2, _ => rfl
  | 3, _ => rfl
  | 4, _ => rfl
  | 5, _ => rfl
  | 6, _ => rfl
  | 7, _ => rfl
  | 8, _ => rfl
  | 9, _ => rfl
  | 10, _ => rfl
  | 11, _ => rfl
  | 12, _ => rfl
  | 13, _ => rfl
  | 14, _ => rfl
  | 15, _ => rfl
  | n + 16, h => exact absurd h (by omega)
def putc (c : Nat → Int) (k : Nat) (y : Int) : Nat → Int := fun j => if j = k then y else c j
theorem mcs_put (m : Mc) (k : Nat) (h : k < 16) (y : Int) : (mcs m).set (2 + k) (.int .u32 y) = mcs { m with c := putc m.c k y } := by
  match k, h with
  | 0, _ => rfl
  | 1, _ => rfl
  | 2, _ => rfl
  | 3, _ => rfl
  | 4, _ => rfl
  | 5, _ => rfl
  | 6, _ => rfl
  | 7, _ => rfl
  | 8, _ => rfl
  | 9, _ => rfl
  | 10, _ => rfl
  | 11, _ => rfl
  | 12, _ => rfl
  | 13, _ => rfl
  | 14, _ => rfl
  | 15, _ => rfl
  | n + 16, h => exact absurd h (by omega)
/-- What holds ahead of a step, and what it comes to. -/
abbrev StepTo (w : World) (g : Nat) (i : Ins) (r : ByteArray) (m' : Mc) : Prop :=
  Calls Tryz.prog 56 #[.pointer (some ⟨g, 0, none⟩), .agg #[.int .u16 i.code, .int .u8 i.jt, .int .u8 i.jf, .int .u32 i.k], .string r] w fun e w' => e = .returned (.tuple #[]) ∧ MB w' g m' ∧ Fr (only g) w w'
set_option maxRecDepth 100000 in
set_option maxHeartbeats 2000000 in
theorem step_ak (w : World) (g : Nat) (m : Mc) (hb : MB w g m) (i : Ins) (hi : i.ok) (hp : m.pc ≤ 10000) (r : ByteArray) (hs : (nameS i.code).toList = [97, 61, 107]) (hx : byxS i.code = false) :
    StepTo w g i r { m with pc := m.pc + 1, a := i.k } := by
  obtain ⟨⟨p1, p2⟩, ⟨p3, p4⟩, ⟨p5, p6⟩, ⟨p7, p8⟩⟩ := hi
  obtain ⟨sn, hn⟩ : ∃ sn, sn = nameS i.code := ⟨_, rfl⟩
  rw [← hn] at hs
  have hg := hb.lt
  have HB := hide hb
  have HS := hide hs
  clear hb hs
  go_enter Tryz.func56, Tryz.ntmps56
  go_wp2_with fail
  refine (name_any _ _).mono ?_
  rintro e w1 ⟨rfl, hw1⟩
  have hb1 : MB w1 g m := by rw [hw1]; exact HB.out.alloc _
  have k1 : w1.heap[w.heap.size]? = some (.cells #[.int .u16 i.code, .int .u8 i.jt, .int .u8 i.jf, .int .u32 i.k] 29 (0, 0)) := by rw [hw1]; exact heap_alloc_new w _
  have f1 : Fr (only g) w w1 := by rw [hw1]; exact (Fr.refl _ w).alloc _
  have d3 : w1.cell? ⟨w.heap.size, 3, none⟩ = some (.int .u32 i.k) := cell_blk k1 rfl
  have c1 := hb1.cell 1 (.int .u32 m.x) rfl
  have c18 := hb1.cell 18 (.int .i64 m.pc) rfl
  have z1 := hb1.fz
  have hsz : w.heap.size ≠ g := by omega
  have HB1 := hide hb1
  have F1 := hide f1
  have K1 := hide k1
  clear hw1 hb1 k1 f1
  rw [← hn, hx]
  clear hn
  go_upto_region 5 with fail
  go_cut [] (fun wx => MB wx g { m with pc := m.pc + 1 } ∧ Fr (only g) w wx ∧ wx.heap[w.heap.size]? = some (.cells #[.int .u16 i.code, .int .u8 i.jt, .int .u8 i.jf, .int .u32 i.k] 29 (0, 0)))
  case first =>
    go_wp2_with fail
    go_meet
    exact ⟨HB1.out.setpc _ (m.pc + 1) (by omega), only_set F1.out 18 _, (heap_setCell_other _ _ _ _ hsz).trans K1.out⟩
  case rest =>
    obtain ⟨hb2, f2, k2⟩ := hcut
    rename World => w2
    have hs := HS.out
    clear HB1 F1 K1 HB HS d3 c1 c18 z1
    have hg2 := hb2.lt
    have z := hb2.fz
    have c0 := hb2.cell 0 (.int .u32 m.a) rfl
    have c1 := hb2.cell 1 (.int .u32 m.x) rfl
    have c18 := hb2.cell 18 (.int .i64 ((m.pc + 1 : Nat) : Int)) rfl
    have HB2 := hide hb2
    have F2 := hide f2
    clear hb2 f2 k2
    go_wp2
    go_end0
    exact ⟨rfl, HB2.out.set 0 _ _ rfl, only_set F2.out 0 _⟩
set_option maxRecDepth 100000 in
set_option maxHeartbeats 2000000 in
theorem step_xk (w : World) (g : Nat) (m : Mc) (hb : MB w g m) (i : Ins) (hi : i.ok) (hp : m.pc ≤ 10000) (r : ByteArray) (hs : (nameS i.code).toList = [120, 61, 107]) (hx : byxS i.code = false) :
    StepTo w g i r { m with pc := m.pc + 1, x := i.k } := by
  obtain ⟨⟨p1, p2⟩, ⟨p3, p4⟩, ⟨p5, p6⟩, ⟨p7, p8⟩⟩ := hi
  obtain ⟨sn, hn⟩ : ∃ sn, sn = nameS i.code := ⟨_, rfl⟩
  rw [← hn] at hs
  have hg := hb.lt
  have HB := hide hb
  have HS := hide hs
  clear hb hs
  go_enter Tryz.func56, Tryz.ntmps56
  go_wp2_with fail
  refine (name_any _ _).mono ?_
  rintro e w1 ⟨rfl, hw1⟩
  have hb1 : MB w1 g m := by rw [hw1]; exact HB.out.alloc _
  have k1 : w1.heap[w.heap.size]? = some (.cells #[.int .u16 i.code, .int .u8 i.jt, .int .u8 i.jf, .int .u32 i.k] 29 (0, 0)) := by rw [hw1]; exact heap_alloc_new w _
  have f1 : Fr (only g) w w1 := by rw [hw1]; exact (Fr.refl _ w).alloc _
  have d3 : w1.cell? ⟨w.heap.size, 3, none⟩ = some (.int .u32 i.k) := cell_blk k1 rfl
  have c1 := hb1.cell 1 (.int .u32 m.x) rfl
  have c18 := hb1.cell 18 (.int .i64 m.pc) rfl
  have z1 := hb1.fz
  have hsz : w.heap.size ≠ g := by omega
  have HB1 := hide hb1
  have F1 := hide f1
  have K1 := hide k1
  clear hw1 hb1 k1 f1
  rw [← hn, hx]
  clear hn
  go_upto_region 5 with fail
  go_cut [] (fun wx => MB wx g { m with pc := m.pc + 1 } ∧ Fr (only g) w wx ∧ wx.heap[w.heap.size]? = some (.cells #[.int .u16 i.code, .int .u8 i.jt, .int .u8 i.jf, .int .u32 i.k] 29 (0, 0)))
  case first =>
    go_wp2_with fail
    go_meet
    exact ⟨HB1.out.setpc _ (m.pc + 1) (by omega), only_set F1.out 18 _, (heap_setCell_other _ _ _ _ hsz).trans K1.out⟩
  case rest =>
    obtain ⟨hb2, f2, k2⟩ := hcut
    rename World => w2
    have hs := HS.out
    clear HB1 F1 K1 HB HS d3 c1 c18 z1
    have hg2 := hb2.lt
    have z := hb2.fz
    have c0 := hb2.cell 0 (.int .u32 m.a) rfl
    have c1 := hb2.cell 1 (.int .u32 m.x) rfl
    have c18 := hb2.cell 18 (.int .i64 ((m.pc + 1 : Nat) : Int)) rfl
    have HB2 := hide hb2
    have F2 := hide f2
    clear hb2 f2 k2
    go_wp2
    go_end0
    exact ⟨rfl, HB2.out.set 1 _ _ rfl, only_set F2.out 1 _⟩
set_option maxRecDepth 100000 in
set_option maxHeartbeats 2000000 in
theorem step_a64 (w : World) (g : Nat) (m : Mc) (hb : MB w g m) (i : Ins) (hi : i.ok) (hp : m.pc ≤ 10000) (r : ByteArray) (hs : (nameS i.code).toList = [97, 61, 54, 52]) (hx : byxS i.code = false) :
    StepTo w g i r { m with pc := m.pc + 1, a := 64 } := by
  obtain ⟨⟨p1, p2⟩, ⟨p3, p4⟩, ⟨p5, p6⟩, ⟨p7, p8⟩⟩ := hi
  obtain ⟨sn, hn⟩ : ∃ sn, sn = nameS i.code := ⟨_, rfl⟩
  rw [← hn] at hs
  have hg := hb.lt
  have HB := hide hb
  have HS := hide hs
  clear hb hs
  go_enter Tryz.func56, Tryz.ntmps56
  go_wp2_with fail
  refine (name_any _ _).mono ?_
  rintro e w1 ⟨rfl, hw1⟩
  have hb1 : MB w1 g m := by rw [hw1]; exact HB.out.alloc _
  have k1 : w1.heap[w.heap.size]? = some (.cells #[.int .u16 i.code, .int .u8 i.jt, .int .u8 i.jf, .int .u32 i.k] 29 (0, 0)) := by rw [hw1]; exact heap_alloc_new w _
  have f1 : Fr (only g) w w1 := by rw [hw1]; exact (Fr.refl _ w).alloc _
  have d3 : w1.cell? ⟨w.heap.size, 3, none⟩ = some (.int .u32 i.k) := cell_blk k1 rfl
  have c1 := hb1.cell 1 (.int .u32 m.x) rfl
  have c18 := hb1.cell 18 (.int .i64 m.pc) rfl
  have z1 := hb1.fz
  have hsz : w.heap.size ≠ g := by omega
  have HB1 := hide hb1
  have F1 := hide f1
  have K1 := hide k1
  clear hw1 hb1 k1 f1
  rw [← hn, hx]
  clear hn
  go_upto_region 5 with fail
  go_cut [] (fun wx => MB wx g { m with pc := m.pc + 1 } ∧ Fr (only g) w wx ∧ wx.heap[w.heap.size]? = some (.cells #[.int .u16 i.code, .int .u8 i.jt, .int .u8 i.jf, .int .u32 i.k] 29 (0, 0)))
  case first =>
    go_wp2_with fail
    go_meet
    exact ⟨HB1.out.setpc _ (m.pc + 1) (by omega), only_set F1.out 18 _, (heap_setCell_other _ _ _ _ hsz).trans K1.out⟩
  case rest =>
    obtain ⟨hb2, f2, k2⟩ := hcut
    rename World => w2
    have hs := HS.out
    clear HB1 F1 K1 HB HS d3 c1 c18 z1
    have hg2 := hb2.lt
    have z := hb2.fz
    have c0 := hb2.cell 0 (.int .u32 m.a) rfl
    have c1 := hb2.cell 1 (.int .u32 m.x) rfl
    have c18 := hb2.cell 18 (.int .i64 ((m.pc + 1 : Nat) : Int)) rfl
    have HB2 := hide hb2
    have F2 := hide f2
    clear hb2 f2 k2
    go_wp2
    go_end0
    exact ⟨rfl, HB2.out.set 0 _ _ rfl, only_set F2.out 0 _⟩
set_option maxRecDepth 100000 in
set_option maxHeartbeats 2000000 in
theorem step_x64 (w : World) (g : Nat) (m : Mc) (hb : MB w g m) (i : Ins) (hi : i.ok) (hp : m.pc ≤ 10000) (r : ByteArray) (hs : (nameS i.code).toList = [120, 61, 54, 52]) (hx : byxS i.code = false) :
    StepTo w g i r { m with pc := m.pc + 1, x := 64 } := by
  obtain ⟨⟨p1, p2⟩, ⟨p3, p4⟩, ⟨p5, p6⟩, ⟨p7, p8⟩⟩ := hi
  obtain ⟨sn, hn⟩ : ∃ sn, sn = nameS i.code := ⟨_, rfl⟩
  rw [← hn] at hs
  have hg := hb.lt
  have HB := hide hb
  have HS := hide hs
  clear hb hs
  go_enter Tryz.func56, Tryz.ntmps56
  go_wp2_with fail
  refine (name_any _ _).mono ?_
  rintro e w1 ⟨rfl, hw1⟩
  have hb1 : MB w1 g m := by rw [hw1]; exact HB.out.alloc _
  have k1 : w1.heap[w.heap.size]? = some (.cells #[.int .u16 i.code, .int .u8 i.jt, .int .u8 i.jf, .int .u32 i.k] 29 (0, 0)) := by rw [hw1]; exact heap_alloc_new w _
  have f1 : Fr (only g) w w1 := by rw [hw1]; exact (Fr.refl _ w).alloc _
  have d3 : w1.cell? ⟨w.heap.size, 3, none⟩ = some (.int .u32 i.k) := cell_blk k1 rfl
  have c1 := hb1.cell 1 (.int .u32 m.x) rfl
  have c18 := hb1.cell 18 (.int .i64 m.pc) rfl
  have z1 := hb1.fz
  have hsz : w.heap.size ≠ g := by omega
  have HB1 := hide hb1
  have F1 := hide f1
  have K1 := hide k1
  clear hw1 hb1 k1 f1
  rw [← hn, hx]
  clear hn
  go_upto_region 5 with fail
  go_cut [] (fun wx => MB wx g { m with pc := m.pc + 1 } ∧ Fr (only g) w wx ∧ wx.heap[w.heap.size]? = some (.cells #[.int .u16 i.code, .int .u8 i.jt, .int .u8 i.jf, .int .u32 i.k] 29 (0, 0)))
  case first =>
    go_wp2_with fail
    go_meet
    exact ⟨HB1.out.setpc _ (m.pc + 1) (by omega), only_set F1.out 18 _, (heap_setCell_other _ _ _ _ hsz).trans K1.out⟩
  case rest =>
    obtain ⟨hb2, f2, k2⟩ := hcut
    rename World => w2
    have hs := HS.out
    clear HB1 F1 K1 HB HS d3 c1 c18 z1
    have hg2 := hb2.lt
    have z := hb2.fz
    have c0 := hb2.cell 0 (.int .u32 m.a) rfl
    have c1 := hb2.cell 1 (.int .u32 m.x) rfl
    have c18 := hb2.cell 18 (.int .i64 ((m.pc + 1 : Nat) : Int)) rfl
    have HB2 := hide hb2
    have F2 := hide f2
    clear hb2 f2 k2
    go_wp2
    go_end0
    exact ⟨rfl, HB2.out.set 1 _ _ rfl, only_set F2.out 1 _⟩
set_option maxRecDepth 100000 in
set_option maxHeartbeats 2000000 in
theorem step_xa (w : World) (g : Nat) (m : Mc) (hb : MB w g m) (i : Ins) (hi : i.ok) (hp : m.pc ≤ 10000) (r : ByteArray) (hs : (nameS i.code).toList = [120, 61, 97]) (hx : byxS i.code = false) :
    StepTo w g i r { m with pc := m.pc + 1, x := m.a } := by
  obtain ⟨⟨p1, p2⟩, ⟨p3, p4⟩, ⟨p5, p6⟩, ⟨p7, p8⟩⟩ := hi
  obtain ⟨sn, hn⟩ : ∃ sn, sn = nameS i.code := ⟨_, rfl⟩
  rw [← hn] at hs
  have hg := hb.lt
  have HB := hide hb
  have HS := hide hs
  clear hb hs
  go_enter Tryz.func56, Tryz.ntmps56
  go_wp2_with fail
  refine (name_any _ _).mono ?_
  rintro e w1 ⟨rfl, hw1⟩
  have hb1 : MB w1 g m := by rw [hw1]; exact HB.out.alloc _
  have k1 : w1.heap[w.heap.size]? = some (.cells #[.int .u16 i.code, .int .u8 i.jt, .int .u8 i.jf, .int .u32 i.k] 29 (0, 0)) := by rw [hw1]; exact heap_alloc_new w _
  have f1 : Fr (only g) w w1 := by rw [hw1]; exact (Fr.refl _ w).alloc _
  have d3 : w1.cell? ⟨w.heap.size, 3, none⟩ = some (.int .u32 i.k) := cell_blk k1 rfl
  have c1 := hb1.cell 1 (.int .u32 m.x) rfl
  have c18 := hb1.cell 18 (.int .i64 m.pc) rfl
  have z1 := hb1.fz
  have hsz : w.heap.size ≠ g := by omega
  have HB1 := hide hb1
  have F1 := hide f1
  have K1 := hide k1
  clear hw1 hb1 k1 f1
  rw [← hn, hx]
  clear hn
  go_upto_region 5 with fail
  go_cut [] (fun wx => MB wx g { m with pc := m.pc + 1 } ∧ Fr (only g) w wx ∧ wx.heap[w.heap.size]? = some (.cells #[.int .u16 i.code, .int .u8 i.jt, .int .u8 i.jf, .int .u32 i.k] 29 (0, 0)))
  case first =>
    go_wp2_with fail
    go_meet
    exact ⟨HB1.out.setpc _ (m.pc + 1) (by omega), only_set F1.out 18 _, (heap_setCell_other _ _ _ _ hsz).trans K1.out⟩
  case rest =>
    obtain ⟨hb2, f2, k2⟩ := hcut
    rename World => w2
    have hs := HS.out
    clear HB1 F1 K1 HB HS d3 c1 c18 z1
    have hg2 := hb2.lt
    have z := hb2.fz
    have c0 := hb2.cell 0 (.int .u32 m.a) rfl
    have c1 := hb2.cell 1 (.int .u32 m.x) rfl
    have c18 := hb2.cell 18 (.int .i64 ((m.pc + 1 : Nat) : Int)) rfl
    have HB2 := hide hb2
    have F2 := hide f2
    clear hb2 f2 k2
    go_wp2
    go_end0
    exact ⟨rfl, HB2.out.set 1 _ _ rfl, only_set F2.out 1 _⟩
set_option maxRecDepth 100000 in
set_option maxHeartbeats 2000000 in
theorem step_ax (w : World) (g : Nat) (m : Mc) (hb : MB w g m) (i : Ins) (hi : i.ok) (hp : m.pc ≤ 10000) (r : ByteArray) (hs : (nameS i.code).toList = [97, 61, 120]) (hx : byxS i.code = false) :
    StepTo w g i r { m with pc := m.pc + 1, a := m.x } := by
  obtain ⟨⟨p1, p2⟩, ⟨p3, p4⟩, ⟨p5, p6⟩, ⟨p7, p8⟩⟩ := hi
  obtain ⟨sn, hn⟩ : ∃ sn, sn = nameS i.code := ⟨_, rfl⟩
  rw [← hn] at hs
  have hg := hb.lt
  have HB := hide hb
  have HS := hide hs
  clear hb hs
  go_enter Tryz.func56, Tryz.ntmps56
  go_wp2_with fail
  refine (name_any _ _).mono ?_
  rintro e w1 ⟨rfl, hw1⟩
  have hb1 : MB w1 g m := by rw [hw1]; exact HB.out.alloc _
  have k1 : w1.heap[w.heap.size]? = some (.cells #[.int .u16 i.code, .int .u8 i.jt, .int .u8 i.jf, .int .u32 i.k] 29 (0, 0)) := by rw [hw1]; exact heap_alloc_new w _
  have f1 : Fr (only g) w w1 := by rw [hw1]; exact (Fr.refl _ w).alloc _
  have d3 : w1.cell? ⟨w.heap.size, 3, none⟩ = some (.int .u32 i.k) := cell_blk k1 rfl
  have c1 := hb1.cell 1 (.int .u32 m.x) rfl
  have c18 := hb1.cell 18 (.int .i64 m.pc) rfl
  have z1 := hb1.fz
  have hsz : w.heap.size ≠ g := by omega
  have HB1 := hide hb1
  have F1 := hide f1
  have K1 := hide k1
  clear hw1 hb1 k1 f1
  rw [← hn, hx]
  clear hn
  go_upto_region 5 with fail
  go_cut [] (fun wx => MB wx g { m with pc := m.pc + 1 } ∧ Fr (only g) w wx ∧ wx.heap[w.heap.size]? = some (.cells #[.int .u16 i.code, .int .u8 i.jt, .int .u8 i.jf, .int .u32 i.k] 29 (0, 0)))
  case first =>
    go_wp2_with fail
    go_meet
    exact ⟨HB1.out.setpc _ (m.pc + 1) (by omega), only_set F1.out 18 _, (heap_setCell_other _ _ _ _ hsz).trans K1.out⟩
  case rest =>
    obtain ⟨hb2, f2, k2⟩ := hcut
    rename World => w2
    have hs := HS.out
    clear HB1 F1 K1 HB HS d3 c1 c18 z1
    have hg2 := hb2.lt
    have z := hb2.fz
    have c0 := hb2.cell 0 (.int .u32 m.a) rfl
    have c1 := hb2.cell 1 (.int .u32 m.x) rfl
    have c18 := hb2.cell 18 (.int .i64 ((m.pc + 1 : Nat) : Int)) rfl
    have HB2 := hide hb2
    have F2 := hide f2
    clear hb2 f2 k2
    go_wp2
    go_end0
    exact ⟨rfl, HB2.out.set 0 _ _ rfl, only_set F2.out 0 _⟩
set_option maxRecDepth 100000 in
set_option maxHeartbeats 2000000 in
theorem step_acell (w : World) (g : Nat) (m : Mc) (hb : MB w g m) (i : Ins) (hi : i.ok) (hp : m.pc ≤ 10000) (r : ByteArray) (hs : (nameS i.code).toList = [97, 61, 99, 101, 108, 108]) (hx : byxS i.code = false) (kn : Nat) (hkn : i.k = (kn : Int)) (hk16 : kn < 16) :
    StepTo w g i r { m with pc := m.pc + 1, a := m.c kn } := by
  have HKN := hide hkn
  clear hkn
  obtain ⟨⟨p1, p2⟩, ⟨p3, p4⟩, ⟨p5, p6⟩, ⟨p7, p8⟩⟩ := hi
  obtain ⟨sn, hn⟩ : ∃ sn, sn = nameS i.code := ⟨_, rfl⟩
  rw [← hn] at hs
  have hg := hb.lt
  have HB := hide hb
  have HS := hide hs
  clear hb hs
  go_enter Tryz.func56, Tryz.ntmps56
  go_wp2_with fail
  refine (name_any _ _).mono ?_
  rintro e w1 ⟨rfl, hw1⟩
  have hb1 : MB w1 g m := by rw [hw1]; exact HB.out.alloc _
  have k1 : w1.heap[w.heap.size]? = some (.cells #[.int .u16 i.code, .int .u8 i.jt, .int .u8 i.jf, .int .u32 i.k] 29 (0, 0)) := by rw [hw1]; exact heap_alloc_new w _
  have f1 : Fr (only g) w w1 := by rw [hw1]; exact (Fr.refl _ w).alloc _
  have d3 : w1.cell? ⟨w.heap.size, 3, none⟩ = some (.int .u32 (kn : Int)) := by rw [← HKN.out]; exact cell_blk k1 rfl
  have c1 := hb1.cell 1 (.int .u32 m.x) rfl
  have c18 := hb1.cell 18 (.int .i64 m.pc) rfl
  have z1 := hb1.fz
  have hsz : w.heap.size ≠ g := by omega
  have HB1 := hide hb1
  have F1 := hide f1
  have K1 := hide k1
  clear hw1 hb1 k1 f1
  rw [← hn, hx]
  clear hn
  go_upto_region 5 with fail
  go_cut [] (fun wx => MB wx g { m with pc := m.pc + 1 } ∧ Fr (only g) w wx ∧ wx.heap[w.heap.size]? = some (.cells #[.int .u16 i.code, .int .u8 i.jt, .int .u8 i.jf, .int .u32 i.k] 29 (0, 0)))
  case first =>
    go_wp2_with fail
    go_meet
    exact ⟨HB1.out.setpc _ (m.pc + 1) (by omega), only_set F1.out 18 _, (heap_setCell_other _ _ _ _ hsz).trans K1.out⟩
  case rest =>
    obtain ⟨hb2, f2, k2⟩ := hcut
    rename World => w2
    have hs := HS.out
    clear HB1 F1 K1 HB HS d3 c1 c18 z1
    have hg2 := hb2.lt
    have z := hb2.fz
    have c0 := hb2.cell 0 (.int .u32 m.a) rfl
    have c1 := hb2.cell 1 (.int .u32 m.x) rfl
    have c18 := hb2.cell 18 (.int .i64 ((m.pc + 1 : Nat) : Int)) rfl
    have HB2 := hide hb2
    have F2 := hide f2
    have ck := hb2.cell (2 + kn) (.int .u32 (m.c kn)) (mcs_cell { m with pc := m.pc + 1 } kn hk16)
    have hk1 : (kn : Int) < 16 := by omega
    have hk0 : (0 : Int) ≤ (kn : Int) := by omega
    clear hb2 f2 k2
    go_wp2
    go_end0
    exact ⟨rfl, HB2.out.set 0 _ _ rfl, only_set F2.out 0 _⟩
set_option maxRecDepth 100000 in
set_option maxHeartbeats 2000000 in
theorem step_xcell (w : World) (g : Nat) (m : Mc) (hb : MB w g m) (i : Ins) (hi : i.ok) (hp : m.pc ≤ 10000) (r : ByteArray) (hs : (nameS i.code).toList = [120, 61, 99, 101, 108, 108]) (hx : byxS i.code = false) (kn : Nat) (hkn : i.k = (kn : Int)) (hk16 : kn < 16) :
    StepTo w g i r { m with pc := m.pc + 1, x := m.c kn } := by
  have HKN := hide hkn
  clear hkn
  obtain ⟨⟨p1, p2⟩, ⟨p3, p4⟩, ⟨p5, p6⟩, ⟨p7, p8⟩⟩ := hi
  obtain ⟨sn, hn⟩ : ∃ sn, sn = nameS i.code := ⟨_, rfl⟩
  rw [← hn] at hs
  have hg := hb.lt
  have HB := hide hb
  have HS := hide hs
  clear hb hs
  go_enter Tryz.func56, Tryz.ntmps56
  go_wp2_with fail
  refine (name_any _ _).mono ?_
  rintro e w1 ⟨rfl, hw1⟩
  have hb1 : MB w1 g m := by rw [hw1]; exact HB.out.alloc _
  have k1 : w1.heap[w.heap.size]? = some (.cells #[.int .u16 i.code, .int .u8 i.jt, .int .u8 i.jf, .int .u32 i.k] 29 (0, 0)) := by rw [hw1]; exact heap_alloc_new w _
  have f1 : Fr (only g) w w1 := by rw [hw1]; exact (Fr.refl _ w).alloc _
  have d3 : w1.cell? ⟨w.heap.size, 3, none⟩ = some (.int .u32 (kn : Int)) := by rw [← HKN.out]; exact cell_blk k1 rfl
  have c1 := hb1.cell 1 (.int .u32 m.x) rfl
  have c18 := hb1.cell 18 (.int .i64 m.pc) rfl
  have z1 := hb1.fz
  have hsz : w.heap.size ≠ g := by omega
  have HB1 := hide hb1
  have F1 := hide f1
  have K1 := hide k1
  clear hw1 hb1 k1 f1
  rw [← hn, hx]
  clear hn
  go_upto_region 5 with fail
  go_cut [] (fun wx => MB wx g { m with pc := m.pc + 1 } ∧ Fr (only g) w wx ∧ wx.heap[w.heap.size]? = some (.cells #[.int .u16 i.code, .int .u8 i.jt, .int .u8 i.jf, .int .u32 i.k] 29 (0, 0)))
  case first =>
    go_wp2_with fail
    go_meet
    exact ⟨HB1.out.setpc _ (m.pc + 1) (by omega), only_set F1.out 18 _, (heap_setCell_other _ _ _ _ hsz).trans K1.out⟩
  case rest =>
    obtain ⟨hb2, f2, k2⟩ := hcut
    rename World => w2
    have hs := HS.out
    clear HB1 F1 K1 HB HS d3 c1 c18 z1
    have hg2 := hb2.lt
    have z := hb2.fz
    have c0 := hb2.cell 0 (.int .u32 m.a) rfl
    have c1 := hb2.cell 1 (.int .u32 m.x) rfl
    have c18 := hb2.cell 18 (.int .i64 ((m.pc + 1 : Nat) : Int)) rfl
    have HB2 := hide hb2
    have F2 := hide f2
    have ck := hb2.cell (2 + kn) (.int .u32 (m.c kn)) (mcs_cell { m with pc := m.pc + 1 } kn hk16)
    have hk1 : (kn : Int) < 16 := by omega
    have hk0 : (0 : Int) ≤ (kn : Int) := by omega
    clear hb2 f2 k2
    go_wp2
    go_end0
    exact ⟨rfl, HB2.out.set 1 _ _ rfl, only_set F2.out 1 _⟩
set_option maxRecDepth 100000 in
set_option maxHeartbeats 2000000 in
theorem step_cella (w : World) (g : Nat) (m : Mc) (hb : MB w g m) (i : Ins) (hi : i.ok) (hp : m.pc ≤ 10000) (r : ByteArray) (hs : (nameS i.code).toList = [99, 101, 108, 108, 61, 97]) (hx : byxS i.code = false) (kn : Nat) (hkn : i.k = (kn : Int)) (hk16 : kn < 16) :
    StepTo w g i r { m with pc := m.pc + 1, c := putc m.c kn m.a } := by
  have HKN := hide hkn
  clear hkn
  obtain ⟨⟨p1, p2⟩, ⟨p3, p4⟩, ⟨p5, p6⟩, ⟨p7, p8⟩⟩ := hi
  obtain ⟨sn, hn⟩ : ∃ sn, sn = nameS i.code := ⟨_, rfl⟩
  rw [← hn] at hs
  have hg := hb.lt
  have HB := hide hb
  have HS := hide hs
  clear hb hs
  go_enter Tryz.func56, Tryz.ntmps56
  go_wp2_with fail
  refine (name_any _ _).mono ?_
  rintro e w1 ⟨rfl, hw1⟩
  have hb1 : MB w1 g m := by rw [hw1]; exact HB.out.alloc _
  have k1 : w1.heap[w.heap.size]? = some (.cells #[.int .u16 i.code, .int .u8 i.jt, .int .u8 i.jf, .int .u32 i.k] 29 (0, 0)) := by rw [hw1]; exact heap_alloc_new w _
  have f1 : Fr (only g) w w1 := by rw [hw1]; exact (Fr.refl _ w).alloc _
  have d3 : w1.cell? ⟨w.heap.size, 3, none⟩ = some (.int .u32 (kn : Int)) := by rw [← HKN.out]; exact cell_blk k1 rfl
  have c1 := hb1.cell 1 (.int .u32 m.x) rfl
  have c18 := hb1.cell 18 (.int .i64 m.pc) rfl
  have z1 := hb1.fz
  have hsz : w.heap.size ≠ g := by omega
  have HB1 := hide hb1
  have F1 := hide f1
  have K1 := hide k1
  clear hw1 hb1 k1 f1
  rw [← hn, hx]
  clear hn
  go_upto_region 5 with fail
  go_cut [] (fun wx => MB wx g { m with pc := m.pc + 1 } ∧ Fr (only g) w wx ∧ wx.heap[w.heap.size]? = some (.cells #[.int .u16 i.code, .int .u8 i.jt, .int .u8 i.jf, .int .u32 i.k] 29 (0, 0)))
  case first =>
    go_wp2_with fail
    go_meet
    exact ⟨HB1.out.setpc _ (m.pc + 1) (by omega), only_set F1.out 18 _, (heap_setCell_other _ _ _ _ hsz).trans K1.out⟩
  case rest =>
    obtain ⟨hb2, f2, k2⟩ := hcut
    rename World => w2
    have hs := HS.out
    clear HB1 F1 K1 HB HS d3 c1 c18 z1
    have hg2 := hb2.lt
    have z := hb2.fz
    have c0 := hb2.cell 0 (.int .u32 m.a) rfl
    have c1 := hb2.cell 1 (.int .u32 m.x) rfl
    have c18 := hb2.cell 18 (.int .i64 ((m.pc + 1 : Nat) : Int)) rfl
    have HB2 := hide hb2
    have F2 := hide f2
    have ck := hb2.cell (2 + kn) (.int .u32 (m.c kn)) (mcs_cell { m with pc := m.pc + 1 } kn hk16)
    have hk1 : (kn : Int) < 16 := by omega
    have hk0 : (0 : Int) ≤ (kn : Int) := by omega
    clear hb2 f2 k2
    go_wp2_with fail
    go_still_tail 9, (by kernel_rfl)
    change wpList _ _ _ _ _ (World.drew _)
    go_wp2
    go_end0
    exact ⟨rfl, HB2.out.set (2 + kn) _ _ (mcs_put { m with pc := m.pc + 1 } kn hk16 m.a), (only_set F2.out (2 + kn) _).drew⟩
set_option maxRecDepth 100000 in
set_option maxHeartbeats 2000000 in
theorem step_cellx (w : World) (g : Nat) (m : Mc) (hb : MB w g m) (i : Ins) (hi : i.ok) (hp : m.pc ≤ 10000) (r : ByteArray) (hs : (nameS i.code).toList = [99, 101, 108, 108, 61, 120]) (hx : byxS i.code = false) (kn : Nat) (hkn : i.k = (kn : Int)) (hk16 : kn < 16) :
    StepTo w g i r { m with pc := m.pc + 1, c := putc m.c kn m.x } := by
  have HKN := hide hkn
  clear hkn
  obtain ⟨⟨p1, p2⟩, ⟨p3, p4⟩, ⟨p5, p6⟩, ⟨p7, p8⟩⟩ := hi
  obtain ⟨sn, hn⟩ : ∃ sn, sn = nameS i.code := ⟨_, rfl⟩
  rw [← hn] at hs
  have hg := hb.lt
  have HB := hide hb
  have HS := hide hs
  clear hb hs
  go_enter Tryz.func56, Tryz.ntmps56
  go_wp2_with fail
  refine (name_any _ _).mono ?_
  rintro e w1 ⟨rfl, hw1⟩
  have hb1 : MB w1 g m := by rw [hw1]; exact HB.out.alloc _
  have k1 : w1.heap[w.heap.size]? = some (.cells #[.int .u16 i.code, .int .u8 i.jt, .int .u8 i.jf, .int .u32 i.k] 29 (0, 0)) := by rw [hw1]; exact heap_alloc_new w _
  have f1 : Fr (only g) w w1 := by rw [hw1]; exact (Fr.refl _ w).alloc _
  have d3 : w1.cell? ⟨w.heap.size, 3, none⟩ = some (.int .u32 (kn : Int)) := by rw [← HKN.out]; exact cell_blk k1 rfl
  have c1 := hb1.cell 1 (.int .u32 m.x) rfl
  have c18 := hb1.cell 18 (.int .i64 m.pc) rfl
  have z1 := hb1.fz
  have hsz : w.heap.size ≠ g := by omega
  have HB1 := hide hb1
  have F1 := hide f1
  have K1 := hide k1
  clear hw1 hb1 k1 f1
  rw [← hn, hx]
  clear hn
  go_upto_region 5 with fail
  go_cut [] (fun wx => MB wx g { m with pc := m.pc + 1 } ∧ Fr (only g) w wx ∧ wx.heap[w.heap.size]? = some (.cells #[.int .u16 i.code, .int .u8 i.jt, .int .u8 i.jf, .int .u32 i.k] 29 (0, 0)))
  case first =>
    go_wp2_with fail
    go_meet
    exact ⟨HB1.out.setpc _ (m.pc + 1) (by omega), only_set F1.out 18 _, (heap_setCell_other _ _ _ _ hsz).trans K1.out⟩
  case rest =>
    obtain ⟨hb2, f2, k2⟩ := hcut
    rename World => w2
    have hs := HS.out
    clear HB1 F1 K1 HB HS d3 c1 c18 z1
    have hg2 := hb2.lt
    have z := hb2.fz
    have c0 := hb2.cell 0 (.int .u32 m.a) rfl
    have c1 := hb2.cell 1 (.int .u32 m.x) rfl
    have c18 := hb2.cell 18 (.int .i64 ((m.pc + 1 : Nat) : Int)) rfl
    have HB2 := hide hb2
    have F2 := hide f2
    have ck := hb2.cell (2 + kn) (.int .u32 (m.c kn)) (mcs_cell { m with pc := m.pc + 1 } kn hk16)
    have hk1 : (kn : Int) < 16 := by omega
    have hk0 : (0 : Int) ≤ (kn : Int) := by omega
    clear hb2 f2 k2
    go_wp2_with fail
    go_still_tail 9, (by kernel_rfl)
    change wpList _ _ _ _ _ (World.drew _)
    go_wp2
    go_end0
    exact ⟨rfl, HB2.out.set (2 + kn) _ _ (mcs_put { m with pc := m.pc + 1 } kn hk16 m.x), (only_set F2.out (2 + kn) _).drew⟩
set_option maxRecDepth 100000 in
set_option maxHeartbeats 2000000 in
theorem step_aat (w : World) (g : Nat) (m : Mc) (hb : MB w g m) (i : Ins) (hi : i.ok) (hp : m.pc ≤ 10000) (r : ByteArray) (hs : (nameS i.code).toList = [97, 61, 97, 116]) (hx : byxS i.code = false) (kn : Nat) (hkn : i.k = (kn : Int)) (hkr : kn + 4 ≤ r.size) (hr : r.size ≤ 140737488355328) :
    StepTo w g i r { m with pc := m.pc + 1, a := wd r kn } := by
  have HKN := hide hkn
  clear hkn
  obtain ⟨⟨p1, p2⟩, ⟨p3, p4⟩, ⟨p5, p6⟩, ⟨p7, p8⟩⟩ := hi
  obtain ⟨sn, hn⟩ : ∃ sn, sn = nameS i.code := ⟨_, rfl⟩
  rw [← hn] at hs
  have hg := hb.lt
  have HB := hide hb
  have HS := hide hs
  clear hb hs
  go_enter Tryz.func56, Tryz.ntmps56
  go_wp2_with fail
  refine (name_any _ _).mono ?_
  rintro e w1 ⟨rfl, hw1⟩
  have hb1 : MB w1 g m := by rw [hw1]; exact HB.out.alloc _
  have k1 : w1.heap[w.heap.size]? = some (.cells #[.int .u16 i.code, .int .u8 i.jt, .int .u8 i.jf, .int .u32 i.k] 29 (0, 0)) := by rw [hw1]; exact heap_alloc_new w _
  have f1 : Fr (only g) w w1 := by rw [hw1]; exact (Fr.refl _ w).alloc _
  have d3 : w1.cell? ⟨w.heap.size, 3, none⟩ = some (.int .u32 (kn : Int)) := by rw [← HKN.out]; exact cell_blk k1 rfl
  have c1 := hb1.cell 1 (.int .u32 m.x) rfl
  have c18 := hb1.cell 18 (.int .i64 m.pc) rfl
  have z1 := hb1.fz
  have hsz : w.heap.size ≠ g := by omega
  have HB1 := hide hb1
  have F1 := hide f1
  have K1 := hide k1
  clear hw1 hb1 k1 f1
  rw [← hn, hx]
  clear hn
  go_upto_region 5 with fail
  go_cut [] (fun wx => MB wx g { m with pc := m.pc + 1 } ∧ Fr (only g) w wx ∧ wx.heap[w.heap.size]? = some (.cells #[.int .u16 i.code, .int .u8 i.jt, .int .u8 i.jf, .int .u32 i.k] 29 (0, 0)))
  case first =>
    go_wp2_with fail
    go_meet
    exact ⟨HB1.out.setpc _ (m.pc + 1) (by omega), only_set F1.out 18 _, (heap_setCell_other _ _ _ _ hsz).trans K1.out⟩
  case rest =>
    obtain ⟨hb2, f2, k2⟩ := hcut
    rename World => w2
    have hs := HS.out
    clear HB1 F1 K1 HB HS d3 c1 c18 z1
    have hg2 := hb2.lt
    have z := hb2.fz
    have c0 := hb2.cell 0 (.int .u32 m.a) rfl
    have c1 := hb2.cell 1 (.int .u32 m.x) rfl
    have c18 := hb2.cell 18 (.int .i64 ((m.pc + 1 : Nat) : Int)) rfl
    have HB2 := hide hb2
    have F2 := hide f2
    have hwk : IntKind.i64.wrap (kn : Int) = (kn : Int) := by rw [IntKind.wrap_i64]; omega
    clear hb2 f2 k2
    go_wp2_with fail
    refine (word_at _ r kn _ (by first | rfl | omega) hkr hr).mono ?_
    rintro e w3 ⟨rfl, n3, rfl⟩
    go_wp2
    go_end0
    exact ⟨rfl, HB2.out.set 0 _ _ rfl, (only_set F2.out 0 _).drewN _⟩
set_option maxRecDepth 100000 in
set_option maxHeartbeats 2000000 in
theorem step_jump (w : World) (g : Nat) (m : Mc) (hb : MB w g m) (i : Ins) (hi : i.ok) (hp : m.pc ≤ 10000) (r : ByteArray) (hs : (nameS i.code).toList = [106, 117, 109, 112]) (hx : byxS i.code = false) :
    StepTo w g i r { m with pc := m.pc + 1 + i.k.toNat } := by
  obtain ⟨⟨p1, p2⟩, ⟨p3, p4⟩, ⟨p5, p6⟩, ⟨p7, p8⟩⟩ := hi
  obtain ⟨sn, hn⟩ : ∃ sn, sn = nameS i.code := ⟨_, rfl⟩
  rw [← hn] at hs
  have hg := hb.lt
  have HB := hide hb
  have HS := hide hs
  clear hb hs
  go_enter Tryz.func56, Tryz.ntmps56
  go_wp2_with fail
  refine (name_any _ _).mono ?_
  rintro e w1 ⟨rfl, hw1⟩
  have hb1 : MB w1 g m := by rw [hw1]; exact HB.out.alloc _
  have k1 : w1.heap[w.heap.size]? = some (.cells #[.int .u16 i.code, .int .u8 i.jt, .int .u8 i.jf, .int .u32 i.k] 29 (0, 0)) := by rw [hw1]; exact heap_alloc_new w _
  have f1 : Fr (only g) w w1 := by rw [hw1]; exact (Fr.refl _ w).alloc _
  have d3 : w1.cell? ⟨w.heap.size, 3, none⟩ = some (.int .u32 i.k) := cell_blk k1 rfl
  have c1 := hb1.cell 1 (.int .u32 m.x) rfl
  have c18 := hb1.cell 18 (.int .i64 m.pc) rfl
  have z1 := hb1.fz
  have hsz : w.heap.size ≠ g := by omega
  have HB1 := hide hb1
  have F1 := hide f1
  have K1 := hide k1
  clear hw1 hb1 k1 f1
  rw [← hn, hx]
  clear hn
  go_upto_region 5 with fail
  go_cut [] (fun wx => MB wx g { m with pc := m.pc + 1 } ∧ Fr (only g) w wx ∧ wx.heap[w.heap.size]? = some (.cells #[.int .u16 i.code, .int .u8 i.jt, .int .u8 i.jf, .int .u32 i.k] 29 (0, 0)))
  case first =>
    go_wp2_with fail
    go_meet
    exact ⟨HB1.out.setpc _ (m.pc + 1) (by omega), only_set F1.out 18 _, (heap_setCell_other _ _ _ _ hsz).trans K1.out⟩
  case rest =>
    obtain ⟨hb2, f2, k2⟩ := hcut
    rename World => w2
    have hs := HS.out
    clear HB1 F1 K1 HB HS d3 c1 c18 z1
    have hg2 := hb2.lt
    have z := hb2.fz
    have c0 := hb2.cell 0 (.int .u32 m.a) rfl
    have c1 := hb2.cell 1 (.int .u32 m.x) rfl
    have c18 := hb2.cell 18 (.int .i64 ((m.pc + 1 : Nat) : Int)) rfl
    have HB2 := hide hb2
    have F2 := hide f2
    have hw : IntKind.i64.wrap (((m.pc + 1 : Nat) : Int) + i.k) = ((m.pc + 1 + i.k.toNat : Nat) : Int) := by rw [IntKind.wrap_i64]; omega
    clear hb2 f2 k2
    go_wp2
    go_end0
    exact ⟨rfl, HB2.out.setpc _ (m.pc + 1 + i.k.toNat) (by omega), only_set F2.out 18 _⟩
set_option maxRecDepth 100000 in
set_option maxHeartbeats 2000000 in
theorem step_retk (w : World) (g : Nat) (m : Mc) (hb : MB w g m) (i : Ins) (hi : i.ok) (hp : m.pc ≤ 10000) (r : ByteArray) (hs : (nameS i.code).toList = [114, 101, 116, 107]) (hx : byxS i.code = false) :
    StepTo w g i r { m with pc := m.pc + 1, e := true, v := i.k } := by
  obtain ⟨⟨p1, p2⟩, ⟨p3, p4⟩, ⟨p5, p6⟩, ⟨p7, p8⟩⟩ := hi
  obtain ⟨sn, hn⟩ : ∃ sn, sn = nameS i.code := ⟨_, rfl⟩
  rw [← hn] at hs
  have hg := hb.lt
  have HB := hide hb
  have HS := hide hs
  clear hb hs
  go_enter Tryz.func56, Tryz.ntmps56
  go_wp2_with fail
  refine (name_any _ _).mono ?_
  rintro e w1 ⟨rfl, hw1⟩
  have hb1 : MB w1 g m := by rw [hw1]; exact HB.out.alloc _
  have k1 : w1.heap[w.heap.size]? = some (.cells #[.int .u16 i.code, .int .u8 i.jt, .int .u8 i.jf, .int .u32 i.k] 29 (0, 0)) := by rw [hw1]; exact heap_alloc_new w _
  have f1 : Fr (only g) w w1 := by rw [hw1]; exact (Fr.refl _ w).alloc _
  have d3 : w1.cell? ⟨w.heap.size, 3, none⟩ = some (.int .u32 i.k) := cell_blk k1 rfl
  have c1 := hb1.cell 1 (.int .u32 m.x) rfl
  have c18 := hb1.cell 18 (.int .i64 m.pc) rfl
  have z1 := hb1.fz
  have hsz : w.heap.size ≠ g := by omega
  have HB1 := hide hb1
  have F1 := hide f1
  have K1 := hide k1
  clear hw1 hb1 k1 f1
  rw [← hn, hx]
  clear hn
  go_upto_region 5 with fail
  go_cut [] (fun wx => MB wx g { m with pc := m.pc + 1 } ∧ Fr (only g) w wx ∧ wx.heap[w.heap.size]? = some (.cells #[.int .u16 i.code, .int .u8 i.jt, .int .u8 i.jf, .int .u32 i.k] 29 (0, 0)))
  case first =>
    go_wp2_with fail
    go_meet
    exact ⟨HB1.out.setpc _ (m.pc + 1) (by omega), only_set F1.out 18 _, (heap_setCell_other _ _ _ _ hsz).trans K1.out⟩
  case rest =>
    obtain ⟨hb2, f2, k2⟩ := hcut
    rename World => w2
    have hs := HS.out
    clear HB1 F1 K1 HB HS d3 c1 c18 z1
    have hg2 := hb2.lt
    have z := hb2.fz
    have c0 := hb2.cell 0 (.int .u32 m.a) rfl
    have c1 := hb2.cell 1 (.int .u32 m.x) rfl
    have c18 := hb2.cell 18 (.int .i64 ((m.pc + 1 : Nat) : Int)) rfl
    have HB2 := hide hb2
    have F2 := hide f2
    clear hb2 f2 k2
    go_wp2_with fail
    refine (mEnd_any _ g { m with pc := m.pc + 1 } HB2.out i.k).mono ?_
    rintro e w3 ⟨rfl, h3, f3⟩
    have H3 := hide h3
    have F3 := hide (F2.out.trans f3)
    clear h3 f3
    go_wp2
    go_end0
    exact ⟨rfl, H3.out, F3.out⟩
set_option maxRecDepth 100000 in
set_option maxHeartbeats 2000000 in
theorem step_reta (w : World) (g : Nat) (m : Mc) (hb : MB w g m) (i : Ins) (hi : i.ok) (hp : m.pc ≤ 10000) (r : ByteArray) (hs : (nameS i.code).toList = [114, 101, 116, 97]) (hx : byxS i.code = false) :
    StepTo w g i r { m with pc := m.pc + 1, e := true, v := m.a } := by
  obtain ⟨⟨p1, p2⟩, ⟨p3, p4⟩, ⟨p5, p6⟩, ⟨p7, p8⟩⟩ := hi
  obtain ⟨sn, hn⟩ : ∃ sn, sn = nameS i.code := ⟨_, rfl⟩
  rw [← hn] at hs
  have hg := hb.lt
  have HB := hide hb
  have HS := hide hs
  clear hb hs
  go_enter Tryz.func56, Tryz.ntmps56
  go_wp2_with fail
  refine (name_any _ _).mono ?_
  rintro e w1 ⟨rfl, hw1⟩
  have hb1 : MB w1 g m := by rw [hw1]; exact HB.out.alloc _
  have k1 : w1.heap[w.heap.size]? = some (.cells #[.int .u16 i.code, .int .u8 i.jt, .int .u8 i.jf, .int .u32 i.k] 29 (0, 0)) := by rw [hw1]; exact heap_alloc_new w _
  have f1 : Fr (only g) w w1 := by rw [hw1]; exact (Fr.refl _ w).alloc _
  have d3 : w1.cell? ⟨w.heap.size, 3, none⟩ = some (.int .u32 i.k) := cell_blk k1 rfl
  have c1 := hb1.cell 1 (.int .u32 m.x) rfl
  have c18 := hb1.cell 18 (.int .i64 m.pc) rfl
  have z1 := hb1.fz
  have hsz : w.heap.size ≠ g := by omega
  have HB1 := hide hb1
  have F1 := hide f1
  have K1 := hide k1
  clear hw1 hb1 k1 f1
  rw [← hn, hx]
  clear hn
  go_upto_region 5 with fail
  go_cut [] (fun wx => MB wx g { m with pc := m.pc + 1 } ∧ Fr (only g) w wx ∧ wx.heap[w.heap.size]? = some (.cells #[.int .u16 i.code, .int .u8 i.jt, .int .u8 i.jf, .int .u32 i.k] 29 (0, 0)))
  case first =>
    go_wp2_with fail
    go_meet
    exact ⟨HB1.out.setpc _ (m.pc + 1) (by omega), only_set F1.out 18 _, (heap_setCell_other _ _ _ _ hsz).trans K1.out⟩
  case rest =>
    obtain ⟨hb2, f2, k2⟩ := hcut
    rename World => w2
    have hs := HS.out
    clear HB1 F1 K1 HB HS d3 c1 c18 z1
    have hg2 := hb2.lt
    have z := hb2.fz
    have c0 := hb2.cell 0 (.int .u32 m.a) rfl
    have c1 := hb2.cell 1 (.int .u32 m.x) rfl
    have c18 := hb2.cell 18 (.int .i64 ((m.pc + 1 : Nat) : Int)) rfl
    have HB2 := hide hb2
    have F2 := hide f2
    clear hb2 f2 k2
    go_wp2_with fail
    refine (mEnd_any _ g { m with pc := m.pc + 1 } HB2.out m.a).mono ?_
    rintro e w3 ⟨rfl, h3, f3⟩
    have H3 := hide h3
    have F3 := hide (F2.out.trans f3)
    clear h3 f3
    go_wp2
    go_end0
    exact ⟨rfl, H3.out, F3.out⟩
def firstNames : List (List UInt8) := [[97, 61, 107], [120, 61, 107], [97, 61, 97, 116], [97, 61, 99, 101, 108, 108], [120, 61, 99, 101, 108, 108], [97, 61, 54, 52], [120, 61, 54, 52], [99, 101, 108, 108, 61, 97], [99, 101, 108, 108, 61, 120], [120, 61, 97], [97, 61, 120], [106, 117, 109, 112], [114, 101, 116, 107], [114, 101, 116, 97]]
set_option maxRecDepth 100000 in
set_option maxHeartbeats 2000000 in
theorem step_reckon_false (w : World) (g : Nat) (m : Mc) (hb : MB w g m) (i : Ins) (hi : i.ok) (hp : m.pc ≤ 10000) (r : ByteArray) (hs : ∀ s ∈ firstNames, (nameS i.code).toList ≠ s) (hx : byxS i.code = false) (m' : Mc)
    (hr : ∀ w1, MB w1 g { m with pc := m.pc + 1 } → Calls Tryz.prog 75 #[.pointer (some ⟨g, 0, none⟩), .string (nameS i.code), .int .u32 i.k, .agg #[.int .u16 i.code, .int .u8 i.jt, .int .u8 i.jf, .int .u32 i.k]] w1 fun e w' => e = .returned (.tuple #[]) ∧ MB w' g m' ∧ Fr (only g) w1 w') :
    StepTo w g i r m' := by
  have HR := hide hr
  clear hr
  obtain ⟨⟨p1, p2⟩, ⟨p3, p4⟩, ⟨p5, p6⟩, ⟨p7, p8⟩⟩ := hi
  obtain ⟨sn, hn⟩ : ∃ sn, sn = nameS i.code := ⟨_, rfl⟩
  rw [← hn] at hs HR
  have hg := hb.lt
  have HB := hide hb
  have HS := hide hs
  clear hb hs
  go_enter Tryz.func56, Tryz.ntmps56
  go_wp2_with fail
  refine (name_any _ _).mono ?_
  rintro e w1 ⟨rfl, hw1⟩
  have hb1 : MB w1 g m := by rw [hw1]; exact HB.out.alloc _
  have k1 : w1.heap[w.heap.size]? = some (.cells #[.int .u16 i.code, .int .u8 i.jt, .int .u8 i.jf, .int .u32 i.k] 29 (0, 0)) := by rw [hw1]; exact heap_alloc_new w _
  have f1 : Fr (only g) w w1 := by rw [hw1]; exact (Fr.refl _ w).alloc _
  have d3 : w1.cell? ⟨w.heap.size, 3, none⟩ = some (.int .u32 i.k) := cell_blk k1 rfl
  have c1 := hb1.cell 1 (.int .u32 m.x) rfl
  have c18 := hb1.cell 18 (.int .i64 m.pc) rfl
  have z1 := hb1.fz
  have hsz : w.heap.size ≠ g := by omega
  have HB1 := hide hb1
  have F1 := hide f1
  have K1 := hide k1
  clear hw1 hb1 k1 f1
  rw [← hn, hx]
  clear hn
  go_upto_region 5 with fail
  go_cut [] (fun wx => MB wx g { m with pc := m.pc + 1 } ∧ Fr (only g) w wx ∧ wx.heap[w.heap.size]? = some (.cells #[.int .u16 i.code, .int .u8 i.jt, .int .u8 i.jf, .int .u32 i.k] 29 (0, 0)))
  case first =>
    go_wp2_with fail
    go_meet
    exact ⟨HB1.out.setpc _ (m.pc + 1) (by omega), only_set F1.out 18 _, (heap_setCell_other _ _ _ _ hsz).trans K1.out⟩
  case rest =>
    obtain ⟨hb2, f2, k2⟩ := hcut
    rename World => w2
    have hs := HS.out
    clear HB1 F1 K1 HB HS d3 c1 c18 z1
    have hg2 := hb2.lt
    have z := hb2.fz
    have c0 := hb2.cell 0 (.int .u32 m.a) rfl
    have c1 := hb2.cell 1 (.int .u32 m.x) rfl
    have c18 := hb2.cell 18 (.int .i64 ((m.pc + 1 : Nat) : Int)) rfl
    have HB2 := hide hb2
    have F2 := hide f2
    have n0 : (sn.toList == [97, 61, 107]) = false := by rw [beq_eq_false_iff_ne]; exact hs [97, 61, 107] (by simp [firstNames])
    have n1 : (sn.toList == [120, 61, 107]) = false := by rw [beq_eq_false_iff_ne]; exact hs [120, 61, 107] (by simp [firstNames])
    have n2 : (sn.toList == [97, 61, 97, 116]) = false := by rw [beq_eq_false_iff_ne]; exact hs [97, 61, 97, 116] (by simp [firstNames])
    have n3 : (sn.toList == [97, 61, 99, 101, 108, 108]) = false := by rw [beq_eq_false_iff_ne]; exact hs [97, 61, 99, 101, 108, 108] (by simp [firstNames])
    have n4 : (sn.toList == [120, 61, 99, 101, 108, 108]) = false := by rw [beq_eq_false_iff_ne]; exact hs [120, 61, 99, 101, 108, 108] (by simp [firstNames])
    have n5 : (sn.toList == [97, 61, 54, 52]) = false := by rw [beq_eq_false_iff_ne]; exact hs [97, 61, 54, 52] (by simp [firstNames])
    have n6 : (sn.toList == [120, 61, 54, 52]) = false := by rw [beq_eq_false_iff_ne]; exact hs [120, 61, 54, 52] (by simp [firstNames])
    have n7 : (sn.toList == [99, 101, 108, 108, 61, 97]) = false := by rw [beq_eq_false_iff_ne]; exact hs [99, 101, 108, 108, 61, 97] (by simp [firstNames])
    have n8 : (sn.toList == [99, 101, 108, 108, 61, 120]) = false := by rw [beq_eq_false_iff_ne]; exact hs [99, 101, 108, 108, 61, 120] (by simp [firstNames])
    have n9 : (sn.toList == [120, 61, 97]) = false := by rw [beq_eq_false_iff_ne]; exact hs [120, 61, 97] (by simp [firstNames])
    have n10 : (sn.toList == [97, 61, 120]) = false := by rw [beq_eq_false_iff_ne]; exact hs [97, 61, 120] (by simp [firstNames])
    have n11 : (sn.toList == [106, 117, 109, 112]) = false := by rw [beq_eq_false_iff_ne]; exact hs [106, 117, 109, 112] (by simp [firstNames])
    have n12 : (sn.toList == [114, 101, 116, 107]) = false := by rw [beq_eq_false_iff_ne]; exact hs [114, 101, 116, 107] (by simp [firstNames])
    have n13 : (sn.toList == [114, 101, 116, 97]) = false := by rw [beq_eq_false_iff_ne]; exact hs [114, 101, 116, 97] (by simp [firstNames])
    have q0 : w2.cell? ⟨w.heap.size, 0, none⟩ = some (.int .u16 i.code) := cell_blk k2 rfl
    have q1 : w2.cell? ⟨w.heap.size, 1, none⟩ = some (.int .u8 i.jt) := cell_blk k2 rfl
    have q2 : w2.cell? ⟨w.heap.size, 2, none⟩ = some (.int .u8 i.jf) := cell_blk k2 rfl
    have q3 : w2.cell? ⟨w.heap.size, 3, none⟩ = some (.int .u32 i.k) := cell_blk k2 rfl
    clear hb2 f2 k2 hs
    go_wp2_with fail
    refine (HR.out _ HB2.out).mono ?_
    rintro e w3 ⟨rfl, h3, f3⟩
    have H3 := hide h3
    have F3 := hide (F2.out.trans f3)
    clear h3 f3
    go_wp2
    go_end0
    exact ⟨rfl, H3.out, F3.out⟩
set_option maxRecDepth 100000 in
set_option maxHeartbeats 2000000 in
theorem step_reckon_true (w : World) (g : Nat) (m : Mc) (hb : MB w g m) (i : Ins) (hi : i.ok) (hp : m.pc ≤ 10000) (r : ByteArray) (hs : ∀ s ∈ firstNames, (nameS i.code).toList ≠ s) (hx : byxS i.code = true) (m' : Mc)
    (hr : ∀ w1, MB w1 g { m with pc := m.pc + 1 } → Calls Tryz.prog 75 #[.pointer (some ⟨g, 0, none⟩), .string (nameS i.code), .int .u32 m.x, .agg #[.int .u16 i.code, .int .u8 i.jt, .int .u8 i.jf, .int .u32 i.k]] w1 fun e w' => e = .returned (.tuple #[]) ∧ MB w' g m' ∧ Fr (only g) w1 w') :
    StepTo w g i r m' := by
  have HR := hide hr
  clear hr
  obtain ⟨⟨p1, p2⟩, ⟨p3, p4⟩, ⟨p5, p6⟩, ⟨p7, p8⟩⟩ := hi
  obtain ⟨sn, hn⟩ : ∃ sn, sn = nameS i.code := ⟨_, rfl⟩
  rw [← hn] at hs HR
  have hg := hb.lt
  have HB := hide hb
  have HS := hide hs
  clear hb hs
  go_enter Tryz.func56, Tryz.ntmps56
  go_wp2_with fail
  refine (name_any _ _).mono ?_
  rintro e w1 ⟨rfl, hw1⟩
  have hb1 : MB w1 g m := by rw [hw1]; exact HB.out.alloc _
  have k1 : w1.heap[w.heap.size]? = some (.cells #[.int .u16 i.code, .int .u8 i.jt, .int .u8 i.jf, .int .u32 i.k] 29 (0, 0)) := by rw [hw1]; exact heap_alloc_new w _
  have f1 : Fr (only g) w w1 := by rw [hw1]; exact (Fr.refl _ w).alloc _
  have d3 : w1.cell? ⟨w.heap.size, 3, none⟩ = some (.int .u32 i.k) := cell_blk k1 rfl
  have c1 := hb1.cell 1 (.int .u32 m.x) rfl
  have c18 := hb1.cell 18 (.int .i64 m.pc) rfl
  have z1 := hb1.fz
  have hsz : w.heap.size ≠ g := by omega
  have HB1 := hide hb1
  have F1 := hide f1
  have K1 := hide k1
  clear hw1 hb1 k1 f1
  rw [← hn, hx]
  clear hn
  go_upto_region 5 with fail
  go_cut [] (fun wx => MB wx g { m with pc := m.pc + 1 } ∧ Fr (only g) w wx ∧ wx.heap[w.heap.size]? = some (.cells #[.int .u16 i.code, .int .u8 i.jt, .int .u8 i.jf, .int .u32 i.k] 29 (0, 0)))
  case first =>
    go_wp2_with fail
    go_meet
    exact ⟨HB1.out.setpc _ (m.pc + 1) (by omega), only_set F1.out 18 _, (heap_setCell_other _ _ _ _ hsz).trans K1.out⟩
  case rest =>
    obtain ⟨hb2, f2, k2⟩ := hcut
    rename World => w2
    have hs := HS.out
    clear HB1 F1 K1 HB HS d3 c1 c18 z1
    have hg2 := hb2.lt
    have z := hb2.fz
    have c0 := hb2.cell 0 (.int .u32 m.a) rfl
    have c1 := hb2.cell 1 (.int .u32 m.x) rfl
    have c18 := hb2.cell 18 (.int .i64 ((m.pc + 1 : Nat) : Int)) rfl
    have HB2 := hide hb2
    have F2 := hide f2
    have n0 : (sn.toList == [97, 61, 107]) = false := by rw [beq_eq_false_iff_ne]; exact hs [97, 61, 107] (by simp [firstNames])
    have n1 : (sn.toList == [120, 61, 107]) = false := by rw [beq_eq_false_iff_ne]; exact hs [120, 61, 107] (by simp [firstNames])
    have n2 : (sn.toList == [97, 61, 97, 116]) = false := by rw [beq_eq_false_iff_ne]; exact hs [97, 61, 97, 116] (by simp [firstNames])
    have n3 : (sn.toList == [97, 61, 99, 101, 108, 108]) = false := by rw [beq_eq_false_iff_ne]; exact hs [97, 61, 99, 101, 108, 108] (by simp [firstNames])
    have n4 : (sn.toList == [120, 61, 99, 101, 108, 108]) = false := by rw [beq_eq_false_iff_ne]; exact hs [120, 61, 99, 101, 108, 108] (by simp [firstNames])
    have n5 : (sn.toList == [97, 61, 54, 52]) = false := by rw [beq_eq_false_iff_ne]; exact hs [97, 61, 54, 52] (by simp [firstNames])
    have n6 : (sn.toList == [120, 61, 54, 52]) = false := by rw [beq_eq_false_iff_ne]; exact hs [120, 61, 54, 52] (by simp [firstNames])
    have n7 : (sn.toList == [99, 101, 108, 108, 61, 97]) = false := by rw [beq_eq_false_iff_ne]; exact hs [99, 101, 108, 108, 61, 97] (by simp [firstNames])
    have n8 : (sn.toList == [99, 101, 108, 108, 61, 120]) = false := by rw [beq_eq_false_iff_ne]; exact hs [99, 101, 108, 108, 61, 120] (by simp [firstNames])
    have n9 : (sn.toList == [120, 61, 97]) = false := by rw [beq_eq_false_iff_ne]; exact hs [120, 61, 97] (by simp [firstNames])
    have n10 : (sn.toList == [97, 61, 120]) = false := by rw [beq_eq_false_iff_ne]; exact hs [97, 61, 120] (by simp [firstNames])
    have n11 : (sn.toList == [106, 117, 109, 112]) = false := by rw [beq_eq_false_iff_ne]; exact hs [106, 117, 109, 112] (by simp [firstNames])
    have n12 : (sn.toList == [114, 101, 116, 107]) = false := by rw [beq_eq_false_iff_ne]; exact hs [114, 101, 116, 107] (by simp [firstNames])
    have n13 : (sn.toList == [114, 101, 116, 97]) = false := by rw [beq_eq_false_iff_ne]; exact hs [114, 101, 116, 97] (by simp [firstNames])
    have q0 : w2.cell? ⟨w.heap.size, 0, none⟩ = some (.int .u16 i.code) := cell_blk k2 rfl
    have q1 : w2.cell? ⟨w.heap.size, 1, none⟩ = some (.int .u8 i.jt) := cell_blk k2 rfl
    have q2 : w2.cell? ⟨w.heap.size, 2, none⟩ = some (.int .u8 i.jf) := cell_blk k2 rfl
    have q3 : w2.cell? ⟨w.heap.size, 3, none⟩ = some (.int .u32 i.k) := cell_blk k2 rfl
    clear hb2 f2 k2 hs
    go_wp2_with fail
    refine (HR.out _ HB2.out).mono ?_
    rintro e w3 ⟨rfl, h3, f3⟩
    have H3 := hide h3
    have F3 := hide (F2.out.trans f3)
    clear h3 f3
    go_wp2
    go_end0
    exact ⟨rfl, H3.out, F3.out⟩
end Go.Proofs.YtjgcfffepkmojaaGreat
