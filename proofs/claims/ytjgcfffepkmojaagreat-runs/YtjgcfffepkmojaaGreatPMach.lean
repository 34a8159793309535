import Derived.BigQuiet
import Derived.Deep.RegionHeld3
import Derived.Test.YtjgcfffepkmojaaGreatMStep
import Derived.Test.YtjgcfffepkmojaaGreatPolV
namespace Go.Proofs.YtjgcfffepkmojaaGreat
open Go.RowKit
set_option linter.unusedVariables false

def pms (m : Mc) (r : ByteArray) : List Value := [.int .u32 m.a, .int .u32 m.x, .int .u32 (m.c 0), .int .u32 (m.c 1), .int .u32 (m.c 2), .int .u32 (m.c 3), .int .u32 (m.c 4), .int .u32 (m.c 5), .int .u32 (m.c 6), .int .u32 (m.c 7),
  .int .u32 (m.c 8), .int .u32 (m.c 9), .int .u32 (m.c 10), .int .u32 (m.c 11), .int .u32 (m.c 12), .int .u32 (m.c 13), .int .u32 (m.c 14), .int .u32 (m.c 15), .string r, .int .i64 m.pc, .bool m.e, .int .u32 m.v]
/-- The block of a run, in the program. -/
def PB (w : World) (g : Nat) (m : Mc) (r : ByteArray) : Prop := w.heap[g]? = some (.cells (pms m r).toArray 134)
section
variable {w : World} {g : Nat} {m : Mc} {r : ByteArray}
theorem PB.lt (h : PB w g m r) : g < w.heap.size := (Array.getElem?_eq_some_iff.1 h).1
theorem PB.cell (h : PB w g m r) (j : Nat) (v : Value) (hj : (pms m r)[j]? = some v) : w.cell? ⟨g, j, none⟩ = some v := cell_blk h (by rw [List.getElem?_toArray]; exact hj)
theorem PB.fz (h : PB w g m r) (j : Nat) : w.frozen? ⟨g, j, none⟩ = false := frozen_blk h
theorem PB.alloc (h : PB w g m r) (o : Obj) : PB (w.alloc o) g m r := blk_alloc h
theorem PB.set (h : PB w g m r) (j : Nat) (y : Value) (m' : Mc) (hj : (pms m r).set j y = pms m' r) : PB (w.setCell ⟨g, j, none⟩ y) g m' r := by
  unfold PB at *
  rw [heap_setCell_same _ _ _ _ _ _ h, ← hj]; simp
theorem PB.fr {w' : World} {S : Nat → Prop} (h : PB w g m r) (f : Fr S w w') (hS : ¬ S g) : PB w' g m r := f.heap h hS
end
theorem pms_put (m : Mc) (r : ByteArray) (k : Nat) (h : k < 16) (y : Int) : (pms m r).set (2 + k) (.int .u32 y) = pms { m with c := putc m.c k y } r := by
  match k, h with
  | 0, _ => rfl
  | 1, _ => rfl
  | 2, _ => rfl
  | 3, _ => rfl
  | 4, _ => rfl
  | 5, _ => rfl
  | 6, _ => rfl
  | 7, _ => rfl
  | 8, _ => rfl
  | 9, _ => rfl
  | 10, _ => rfl
  | 11, _ => rfl
  | 12, _ => rfl
  | 13, _ => rfl
  | 14, _ => rfl
  | 15, _ => rfl
  | n + 16, h => exact absurd h (by omega)
theorem pms_cell (m : Mc) (r : ByteArray) (k : Nat) (h : k < 16) : (pms m r)[2 + k]? = some (.int .u32 (m.c k)) := by
  match k, h with
  | 0, _ => rfl
  | 1, _ => rfl
  | 2, _ => rfl
  | 3, _ => rfl
  | 4, _ => rfl
  | 5, _ => rfl
  | 6, _ => rfl
  | 7, _ => rfl
  | 8, _ => rfl
  | 9, _ => rfl
  | 10, _ => rfl
  | 11, _ => rfl
  | 12, _ => rfl
  | 13, _ => rfl
  | 14, _ => rfl
  | 15, _ => rfl
  | n + 16, h => exact absurd h (by omega)
/-- Does a code reckon with X? -/
def xb8 (c : Int) : Bool := bits .and .u16 c 8 != 0
def opd (i : Ins) (m : Mc) : Int := if xb8 i.code then m.x else i.k
/-- A call of the program's function f makes of the run m'. -/
def PT (f : Nat) (w : World) (g : Nat) (i : Ins) (r : ByteArray) (m' : Mc) : Prop :=
  Calls Tryz.prog f #[.pointer (some ⟨g, 0, none⟩), .agg #[.int .u16 i.code, .int .u8 i.jt, .int .u8 i.jf, .int .u32 i.k]] w fun e w' => e = .returned (.tuple #[]) ∧ PB w' g m' r ∧ Fr (only g) w w'
theorem toOnly {w w' : World} (g : Nat) (f : Fr nob w w') : Fr (only g) w w' := f.mono (fun _ _ h => h.elim)

set_option maxRecDepth 100000 in
set_option maxHeartbeats 2000000 in
theorem operand_any (w : World) (g : Nat) (m : Mc) (r : ByteArray) (hb : PB w g m r) (i : Ins) :
    Calls Tryz.prog 119 #[.pointer (some ⟨g, 0, none⟩), .agg #[.int .u16 i.code, .int .u8 i.jt, .int .u8 i.jf, .int .u32 i.k]] w fun e w' => e = .returned (.int .u32 (opd i m)) ∧ Fr nob w w' := by
  have c1 := hb.cell 1 (.int .u32 m.x) rfl
  have hg := hb.lt
  have HB := hide hb
  clear hb
  have F0 := hide ((Fr.refl nob w).alloc (.cells #[.int .u16 i.code, .int .u8 i.jt, .int .u8 i.jf, .int .u32 i.k] 29))
  unfold opd xb8
  cases hz : bits .and .u16 i.code 8 != 0 with
  | true =>
    go_enter Tryz.func119, Tryz.ntmps119
    go_wp2
    go_ret
    exact ⟨rfl, F0.out⟩
  | false =>
    go_enter Tryz.func119, Tryz.ntmps119
    go_wp2
    go_ret
    exact ⟨rfl, F0.out⟩
set_option maxRecDepth 100000 in
set_option maxHeartbeats 2000000 in
theorem distance_any (w : World) (g : Nat) (m : Mc) (r : ByteArray) (hb : PB w g m r) (i : Ins) :
    Calls Tryz.prog 121 #[.pointer (some ⟨g, 0, none⟩), .agg #[.int .u16 i.code, .int .u8 i.jt, .int .u8 i.jf, .int .u32 i.k]] w fun e w' => e = .returned (.int .u32 ((opd i m).tmod 32)) ∧ Fr nob w w' := by
  have F0 := hide ((Fr.refl nob w).alloc (.cells #[.int .u16 i.code, .int .u8 i.jt, .int .u8 i.jf, .int .u32 i.k] 29))
  have HB := hide hb
  clear hb
  go_enter Tryz.func121, Tryz.ntmps121
  go_wp2_with fail
  refine (operand_any _ g m r (HB.out.alloc _) i).mono ?_
  rintro e w2 ⟨rfl, f2⟩
  have F2 := hide (F0.out.trans f2)
  clear f2 F0
  go_wp2
  go_ret
  exact ⟨rfl, F2.out⟩
set_option maxRecDepth 100000 in
set_option maxHeartbeats 2000000 in
theorem pEnd_any (w : World) (g : Nat) (m : Mc) (r : ByteArray) (hb : PB w g m r) (v : Int) :
    Calls Tryz.prog 123 #[.pointer (some ⟨g, 0, none⟩), .int .u32 v] w fun e w' => e = .returned (.tuple #[]) ∧ PB w' g { m with e := true, v := v } r ∧ Fr (only g) w w' := by
  have c1 := hb.cell 20 (.bool m.e) rfl
  have c2 := hb.cell 21 (.int .u32 m.v) rfl
  have z := hb.fz
  have hg := hb.lt
  have HB := hide hb
  clear hb
  go_enter Tryz.func123, Tryz.ntmps123
  go_wp2
  go_end0
  exact ⟨rfl, (HB.out.set 20 (.bool true) { m with e := true } rfl).set 21 (.int .u32 v) _ rfl, only_set (only_set (Fr.refl _ w) 20 _) 21 _⟩

set_option maxRecDepth 100000 in
set_option maxHeartbeats 2000000 in
theorem p_loadK (w : World) (g : Nat) (m : Mc) (r : ByteArray) (hb : PB w g m r) (i : Ins) : PT 84 w g i r { m with a := i.k } := by
  have z := hb.fz
  have hg := hb.lt
  have c0 := hb.cell 0 (.int .u32 m.a) rfl
  have c1 := hb.cell 1 (.int .u32 m.x) rfl
  have HB := hide hb
  clear hb
  unfold PT
  go_enter Tryz.func84, Tryz.ntmps84
  go_wp2
  go_end0
  exact ⟨rfl, (HB.out.set 0 _ { m with a := i.k } rfl).alloc _, (only_set (Fr.refl _ w) 0 _).alloc _⟩

set_option maxRecDepth 100000 in
set_option maxHeartbeats 2000000 in
theorem p_loadXK (w : World) (g : Nat) (m : Mc) (r : ByteArray) (hb : PB w g m r) (i : Ins) : PT 85 w g i r { m with x := i.k } := by
  have z := hb.fz
  have hg := hb.lt
  have c0 := hb.cell 0 (.int .u32 m.a) rfl
  have c1 := hb.cell 1 (.int .u32 m.x) rfl
  have HB := hide hb
  clear hb
  unfold PT
  go_enter Tryz.func85, Tryz.ntmps85
  go_wp2
  go_end0
  exact ⟨rfl, (HB.out.set 1 _ { m with x := i.k } rfl).alloc _, (only_set (Fr.refl _ w) 1 _).alloc _⟩

set_option maxRecDepth 100000 in
set_option maxHeartbeats 2000000 in
theorem p_loadLen (w : World) (g : Nat) (m : Mc) (r : ByteArray) (hb : PB w g m r) (i : Ins) : PT 89 w g i r { m with a := 64 } := by
  have z := hb.fz
  have hg := hb.lt
  have c0 := hb.cell 0 (.int .u32 m.a) rfl
  have c1 := hb.cell 1 (.int .u32 m.x) rfl
  have HB := hide hb
  clear hb
  unfold PT
  go_enter Tryz.func89, Tryz.ntmps89
  go_wp2
  go_end0
  exact ⟨rfl, (HB.out.set 0 _ { m with a := 64 } rfl).alloc _, (only_set (Fr.refl _ w) 0 _).alloc _⟩

set_option maxRecDepth 100000 in
set_option maxHeartbeats 2000000 in
theorem p_loadXLen (w : World) (g : Nat) (m : Mc) (r : ByteArray) (hb : PB w g m r) (i : Ins) : PT 90 w g i r { m with x := 64 } := by
  have z := hb.fz
  have hg := hb.lt
  have c0 := hb.cell 0 (.int .u32 m.a) rfl
  have c1 := hb.cell 1 (.int .u32 m.x) rfl
  have HB := hide hb
  clear hb
  unfold PT
  go_enter Tryz.func90, Tryz.ntmps90
  go_wp2
  go_end0
  exact ⟨rfl, (HB.out.set 1 _ { m with x := 64 } rfl).alloc _, (only_set (Fr.refl _ w) 1 _).alloc _⟩

set_option maxRecDepth 100000 in
set_option maxHeartbeats 2000000 in
theorem p_toX (w : World) (g : Nat) (m : Mc) (r : ByteArray) (hb : PB w g m r) (i : Ins) : PT 93 w g i r { m with x := m.a } := by
  have z := hb.fz
  have hg := hb.lt
  have c0 := hb.cell 0 (.int .u32 m.a) rfl
  have c1 := hb.cell 1 (.int .u32 m.x) rfl
  have HB := hide hb
  clear hb
  unfold PT
  go_enter Tryz.func93, Tryz.ntmps93
  go_wp2
  go_end0
  exact ⟨rfl, (HB.out.set 1 _ { m with x := m.a } rfl).alloc _, (only_set (Fr.refl _ w) 1 _).alloc _⟩

set_option maxRecDepth 100000 in
set_option maxHeartbeats 2000000 in
theorem p_fromX (w : World) (g : Nat) (m : Mc) (r : ByteArray) (hb : PB w g m r) (i : Ins) : PT 94 w g i r { m with a := m.x } := by
  have z := hb.fz
  have hg := hb.lt
  have c0 := hb.cell 0 (.int .u32 m.a) rfl
  have c1 := hb.cell 1 (.int .u32 m.x) rfl
  have HB := hide hb
  clear hb
  unfold PT
  go_enter Tryz.func94, Tryz.ntmps94
  go_wp2
  go_end0
  exact ⟨rfl, (HB.out.set 0 _ { m with a := m.x } rfl).alloc _, (only_set (Fr.refl _ w) 0 _).alloc _⟩

set_option maxRecDepth 100000 in
set_option maxHeartbeats 2000000 in
theorem p_neg (w : World) (g : Nat) (m : Mc) (r : ByteArray) (hb : PB w g m r) (i : Ins) : PT 105 w g i r { m with a := -m.a % 4294967296 } := by
  have z := hb.fz
  have hg := hb.lt
  have c0 := hb.cell 0 (.int .u32 m.a) rfl
  have c1 := hb.cell 1 (.int .u32 m.x) rfl
  have HB := hide hb
  clear hb
  unfold PT
  go_enter Tryz.func105, Tryz.ntmps105
  go_wp2
  go_end0
  exact ⟨rfl, (HB.out.set 0 _ { m with a := -m.a % 4294967296 } rfl).alloc _, (only_set (Fr.refl _ w) 0 _).alloc _⟩

set_option maxRecDepth 100000 in
set_option maxHeartbeats 2000000 in
theorem p_add (w : World) (g : Nat) (m : Mc) (r : ByteArray) (hb : PB w g m r) (i : Ins) : PT 95 w g i r { m with a := (m.a + opd i m) % 4294967296 } := by
  have z := hb.fz
  have hg := hb.lt
  have c0 := hb.cell 0 (.int .u32 m.a) rfl
  have c1 := hb.cell 1 (.int .u32 m.x) rfl
  have HB := hide hb
  clear hb
  unfold PT
  go_enter Tryz.func95, Tryz.ntmps95
  go_wp2_with fail
  have b1 : PB (w.alloc (.cells #[.int .u16 i.code, .int .u8 i.jt, .int .u8 i.jf, .int .u32 i.k] 29)) g m r := HB.out.alloc _
  have f1 : Fr nob w (w.alloc (.cells #[.int .u16 i.code, .int .u8 i.jt, .int .u8 i.jf, .int .u32 i.k] 29)) := (Fr.refl _ w).alloc _
  have k1 : (w.alloc (.cells #[.int .u16 i.code, .int .u8 i.jt, .int .u8 i.jf, .int .u32 i.k] 29)).heap[w.heap.size]? = some (.cells #[.int .u16 i.code, .int .u8 i.jt, .int .u8 i.jf, .int .u32 i.k] 29 (0, 0)) := heap_alloc_new w _
  have s1 := World.size_alloc w (.cells #[.int .u16 i.code, .int .u8 i.jt, .int .u8 i.jf, .int .u32 i.k] 29)
  clear z hg c0 c1
  obtain ⟨w1, hw1⟩ : ∃ w1, w1 = w.alloc (.cells #[.int .u16 i.code, .int .u8 i.jt, .int .u8 i.jf, .int .u32 i.k] 29) := ⟨_, rfl⟩
  rw [← hw1] at b1 f1 k1 s1 ⊢
  clear hw1
  have z := b1.fz
  have hg := b1.lt
  have c0 := b1.cell 0 (.int .u32 m.a) rfl
  have c1 := b1.cell 1 (.int .u32 m.x) rfl
  have v0 : w1.cell? ⟨w.heap.size, 0, none⟩ = some (.int .u16 i.code) := cell_blk k1 rfl
  have v1 : w1.cell? ⟨w.heap.size, 1, none⟩ = some (.int .u8 i.jt) := cell_blk k1 rfl
  have v2 : w1.cell? ⟨w.heap.size, 2, none⟩ = some (.int .u8 i.jf) := cell_blk k1 rfl
  have v3 : w1.cell? ⟨w.heap.size, 3, none⟩ = some (.int .u32 i.k) := cell_blk k1 rfl
  have B1 := hide b1
  have F1 := hide f1
  have K1 := hide k1
  clear b1 f1 k1
  go_region_with (go_at_call 119; refine (operand_any _ g m r (by exact B1.out) i).mono ?_; rintro e w2 ⟨rfl, f2'⟩; have f2 : Fr nob w1 w2 := ⟨f2'.os, f2'.tape, f2'.output, f2'.size, f2'.block⟩; have b2 := B1.out.fr f2 (fun h => h); have d0 := b2.cell 0 (.int .u32 m.a) rfl; have z2 := b2.fz; have hg2 := b2.lt; have B2 := hide b2; have F2 := hide (F1.out.trans f2); clear b2 f2 f2')
  all_goals (
    go_end0
    exact ⟨rfl, B2.out.set 0 _ { m with a := (m.a + opd i m) % 4294967296 } rfl, only_set (toOnly g F2.out) 0 _⟩)

set_option maxRecDepth 100000 in
set_option maxHeartbeats 2000000 in
theorem p_sub (w : World) (g : Nat) (m : Mc) (r : ByteArray) (hb : PB w g m r) (i : Ins) : PT 96 w g i r { m with a := (m.a - opd i m) % 4294967296 } := by
  have z := hb.fz
  have hg := hb.lt
  have c0 := hb.cell 0 (.int .u32 m.a) rfl
  have c1 := hb.cell 1 (.int .u32 m.x) rfl
  have HB := hide hb
  clear hb
  unfold PT
  go_enter Tryz.func96, Tryz.ntmps96
  go_wp2_with fail
  have b1 : PB (w.alloc (.cells #[.int .u16 i.code, .int .u8 i.jt, .int .u8 i.jf, .int .u32 i.k] 29)) g m r := HB.out.alloc _
  have f1 : Fr nob w (w.alloc (.cells #[.int .u16 i.code, .int .u8 i.jt, .int .u8 i.jf, .int .u32 i.k] 29)) := (Fr.refl _ w).alloc _
  have k1 : (w.alloc (.cells #[.int .u16 i.code, .int .u8 i.jt, .int .u8 i.jf, .int .u32 i.k] 29)).heap[w.heap.size]? = some (.cells #[.int .u16 i.code, .int .u8 i.jt, .int .u8 i.jf, .int .u32 i.k] 29 (0, 0)) := heap_alloc_new w _
  have s1 := World.size_alloc w (.cells #[.int .u16 i.code, .int .u8 i.jt, .int .u8 i.jf, .int .u32 i.k] 29)
  clear z hg c0 c1
  obtain ⟨w1, hw1⟩ : ∃ w1, w1 = w.alloc (.cells #[.int .u16 i.code, .int .u8 i.jt, .int .u8 i.jf, .int .u32 i.k] 29) := ⟨_, rfl⟩
  rw [← hw1] at b1 f1 k1 s1 ⊢
  clear hw1
  have z := b1.fz
  have hg := b1.lt
  have c0 := b1.cell 0 (.int .u32 m.a) rfl
  have c1 := b1.cell 1 (.int .u32 m.x) rfl
  have v0 : w1.cell? ⟨w.heap.size, 0, none⟩ = some (.int .u16 i.code) := cell_blk k1 rfl
  have v1 : w1.cell? ⟨w.heap.size, 1, none⟩ = some (.int .u8 i.jt) := cell_blk k1 rfl
  have v2 : w1.cell? ⟨w.heap.size, 2, none⟩ = some (.int .u8 i.jf) := cell_blk k1 rfl
  have v3 : w1.cell? ⟨w.heap.size, 3, none⟩ = some (.int .u32 i.k) := cell_blk k1 rfl
  have B1 := hide b1
  have F1 := hide f1
  have K1 := hide k1
  clear b1 f1 k1
  go_region_with (go_at_call 119; refine (operand_any _ g m r (by exact B1.out) i).mono ?_; rintro e w2 ⟨rfl, f2'⟩; have f2 : Fr nob w1 w2 := ⟨f2'.os, f2'.tape, f2'.output, f2'.size, f2'.block⟩; have b2 := B1.out.fr f2 (fun h => h); have d0 := b2.cell 0 (.int .u32 m.a) rfl; have z2 := b2.fz; have hg2 := b2.lt; have B2 := hide b2; have F2 := hide (F1.out.trans f2); clear b2 f2 f2')
  all_goals (
    go_end0
    exact ⟨rfl, B2.out.set 0 _ { m with a := (m.a - opd i m) % 4294967296 } rfl, only_set (toOnly g F2.out) 0 _⟩)

set_option maxRecDepth 100000 in
set_option maxHeartbeats 2000000 in
theorem p_mul (w : World) (g : Nat) (m : Mc) (r : ByteArray) (hb : PB w g m r) (i : Ins) : PT 97 w g i r { m with a := m.a * opd i m % 4294967296 } := by
  have z := hb.fz
  have hg := hb.lt
  have c0 := hb.cell 0 (.int .u32 m.a) rfl
  have c1 := hb.cell 1 (.int .u32 m.x) rfl
  have HB := hide hb
  clear hb
  unfold PT
  go_enter Tryz.func97, Tryz.ntmps97
  go_wp2_with fail
  have b1 : PB (w.alloc (.cells #[.int .u16 i.code, .int .u8 i.jt, .int .u8 i.jf, .int .u32 i.k] 29)) g m r := HB.out.alloc _
  have f1 : Fr nob w (w.alloc (.cells #[.int .u16 i.code, .int .u8 i.jt, .int .u8 i.jf, .int .u32 i.k] 29)) := (Fr.refl _ w).alloc _
  have k1 : (w.alloc (.cells #[.int .u16 i.code, .int .u8 i.jt, .int .u8 i.jf, .int .u32 i.k] 29)).heap[w.heap.size]? = some (.cells #[.int .u16 i.code, .int .u8 i.jt, .int .u8 i.jf, .int .u32 i.k] 29 (0, 0)) := heap_alloc_new w _
  have s1 := World.size_alloc w (.cells #[.int .u16 i.code, .int .u8 i.jt, .int .u8 i.jf, .int .u32 i.k] 29)
  clear z hg c0 c1
  obtain ⟨w1, hw1⟩ : ∃ w1, w1 = w.alloc (.cells #[.int .u16 i.code, .int .u8 i.jt, .int .u8 i.jf, .int .u32 i.k] 29) := ⟨_, rfl⟩
  rw [← hw1] at b1 f1 k1 s1 ⊢
  clear hw1
  have z := b1.fz
  have hg := b1.lt
  have c0 := b1.cell 0 (.int .u32 m.a) rfl
  have c1 := b1.cell 1 (.int .u32 m.x) rfl
  have v0 : w1.cell? ⟨w.heap.size, 0, none⟩ = some (.int .u16 i.code) := cell_blk k1 rfl
  have v1 : w1.cell? ⟨w.heap.size, 1, none⟩ = some (.int .u8 i.jt) := cell_blk k1 rfl
  have v2 : w1.cell? ⟨w.heap.size, 2, none⟩ = some (.int .u8 i.jf) := cell_blk k1 rfl
  have v3 : w1.cell? ⟨w.heap.size, 3, none⟩ = some (.int .u32 i.k) := cell_blk k1 rfl
  have B1 := hide b1
  have F1 := hide f1
  have K1 := hide k1
  clear b1 f1 k1
  go_region_with (go_at_call 119; refine (operand_any _ g m r (by exact B1.out) i).mono ?_; rintro e w2 ⟨rfl, f2'⟩; have f2 : Fr nob w1 w2 := ⟨f2'.os, f2'.tape, f2'.output, f2'.size, f2'.block⟩; have b2 := B1.out.fr f2 (fun h => h); have d0 := b2.cell 0 (.int .u32 m.a) rfl; have z2 := b2.fz; have hg2 := b2.lt; have B2 := hide b2; have F2 := hide (F1.out.trans f2); clear b2 f2 f2')
  all_goals (
    go_end0
    exact ⟨rfl, B2.out.set 0 _ { m with a := m.a * opd i m % 4294967296 } rfl, only_set (toOnly g F2.out) 0 _⟩)

set_option maxRecDepth 100000 in
set_option maxHeartbeats 2000000 in
theorem p_or (w : World) (g : Nat) (m : Mc) (r : ByteArray) (hb : PB w g m r) (i : Ins) : PT 99 w g i r { m with a := bits .or .u32 m.a (opd i m) } := by
  have z := hb.fz
  have hg := hb.lt
  have c0 := hb.cell 0 (.int .u32 m.a) rfl
  have c1 := hb.cell 1 (.int .u32 m.x) rfl
  have HB := hide hb
  clear hb
  unfold PT
  go_enter Tryz.func99, Tryz.ntmps99
  go_wp2_with fail
  have b1 : PB (w.alloc (.cells #[.int .u16 i.code, .int .u8 i.jt, .int .u8 i.jf, .int .u32 i.k] 29)) g m r := HB.out.alloc _
  have f1 : Fr nob w (w.alloc (.cells #[.int .u16 i.code, .int .u8 i.jt, .int .u8 i.jf, .int .u32 i.k] 29)) := (Fr.refl _ w).alloc _
  have k1 : (w.alloc (.cells #[.int .u16 i.code, .int .u8 i.jt, .int .u8 i.jf, .int .u32 i.k] 29)).heap[w.heap.size]? = some (.cells #[.int .u16 i.code, .int .u8 i.jt, .int .u8 i.jf, .int .u32 i.k] 29 (0, 0)) := heap_alloc_new w _
  have s1 := World.size_alloc w (.cells #[.int .u16 i.code, .int .u8 i.jt, .int .u8 i.jf, .int .u32 i.k] 29)
  clear z hg c0 c1
  obtain ⟨w1, hw1⟩ : ∃ w1, w1 = w.alloc (.cells #[.int .u16 i.code, .int .u8 i.jt, .int .u8 i.jf, .int .u32 i.k] 29) := ⟨_, rfl⟩
  rw [← hw1] at b1 f1 k1 s1 ⊢
  clear hw1
  have z := b1.fz
  have hg := b1.lt
  have c0 := b1.cell 0 (.int .u32 m.a) rfl
  have c1 := b1.cell 1 (.int .u32 m.x) rfl
  have v0 : w1.cell? ⟨w.heap.size, 0, none⟩ = some (.int .u16 i.code) := cell_blk k1 rfl
  have v1 : w1.cell? ⟨w.heap.size, 1, none⟩ = some (.int .u8 i.jt) := cell_blk k1 rfl
  have v2 : w1.cell? ⟨w.heap.size, 2, none⟩ = some (.int .u8 i.jf) := cell_blk k1 rfl
  have v3 : w1.cell? ⟨w.heap.size, 3, none⟩ = some (.int .u32 i.k) := cell_blk k1 rfl
  have B1 := hide b1
  have F1 := hide f1
  have K1 := hide k1
  clear b1 f1 k1
  go_region_with (go_at_call 119; refine (operand_any _ g m r (by exact B1.out) i).mono ?_; rintro e w2 ⟨rfl, f2'⟩; have f2 : Fr nob w1 w2 := ⟨f2'.os, f2'.tape, f2'.output, f2'.size, f2'.block⟩; have b2 := B1.out.fr f2 (fun h => h); have d0 := b2.cell 0 (.int .u32 m.a) rfl; have z2 := b2.fz; have hg2 := b2.lt; have B2 := hide b2; have F2 := hide (F1.out.trans f2); clear b2 f2 f2')
  all_goals (
    go_end0
    exact ⟨rfl, B2.out.set 0 _ { m with a := bits .or .u32 m.a (opd i m) } rfl, only_set (toOnly g F2.out) 0 _⟩)

set_option maxRecDepth 100000 in
set_option maxHeartbeats 2000000 in
theorem p_and (w : World) (g : Nat) (m : Mc) (r : ByteArray) (hb : PB w g m r) (i : Ins) : PT 100 w g i r { m with a := bits .and .u32 m.a (opd i m) } := by
  have z := hb.fz
  have hg := hb.lt
  have c0 := hb.cell 0 (.int .u32 m.a) rfl
  have c1 := hb.cell 1 (.int .u32 m.x) rfl
  have HB := hide hb
  clear hb
  unfold PT
  go_enter Tryz.func100, Tryz.ntmps100
  go_wp2_with fail
  have b1 : PB (w.alloc (.cells #[.int .u16 i.code, .int .u8 i.jt, .int .u8 i.jf, .int .u32 i.k] 29)) g m r := HB.out.alloc _
  have f1 : Fr nob w (w.alloc (.cells #[.int .u16 i.code, .int .u8 i.jt, .int .u8 i.jf, .int .u32 i.k] 29)) := (Fr.refl _ w).alloc _
  have k1 : (w.alloc (.cells #[.int .u16 i.code, .int .u8 i.jt, .int .u8 i.jf, .int .u32 i.k] 29)).heap[w.heap.size]? = some (.cells #[.int .u16 i.code, .int .u8 i.jt, .int .u8 i.jf, .int .u32 i.k] 29 (0, 0)) := heap_alloc_new w _
  have s1 := World.size_alloc w (.cells #[.int .u16 i.code, .int .u8 i.jt, .int .u8 i.jf, .int .u32 i.k] 29)
  clear z hg c0 c1
  obtain ⟨w1, hw1⟩ : ∃ w1, w1 = w.alloc (.cells #[.int .u16 i.code, .int .u8 i.jt, .int .u8 i.jf, .int .u32 i.k] 29) := ⟨_, rfl⟩
  rw [← hw1] at b1 f1 k1 s1 ⊢
  clear hw1
  have z := b1.fz
  have hg := b1.lt
  have c0 := b1.cell 0 (.int .u32 m.a) rfl
  have c1 := b1.cell 1 (.int .u32 m.x) rfl
  have v0 : w1.cell? ⟨w.heap.size, 0, none⟩ = some (.int .u16 i.code) := cell_blk k1 rfl
  have v1 : w1.cell? ⟨w.heap.size, 1, none⟩ = some (.int .u8 i.jt) := cell_blk k1 rfl
  have v2 : w1.cell? ⟨w.heap.size, 2, none⟩ = some (.int .u8 i.jf) := cell_blk k1 rfl
  have v3 : w1.cell? ⟨w.heap.size, 3, none⟩ = some (.int .u32 i.k) := cell_blk k1 rfl
  have B1 := hide b1
  have F1 := hide f1
  have K1 := hide k1
  clear b1 f1 k1
  go_region_with (go_at_call 119; refine (operand_any _ g m r (by exact B1.out) i).mono ?_; rintro e w2 ⟨rfl, f2'⟩; have f2 : Fr nob w1 w2 := ⟨f2'.os, f2'.tape, f2'.output, f2'.size, f2'.block⟩; have b2 := B1.out.fr f2 (fun h => h); have d0 := b2.cell 0 (.int .u32 m.a) rfl; have z2 := b2.fz; have hg2 := b2.lt; have B2 := hide b2; have F2 := hide (F1.out.trans f2); clear b2 f2 f2')
  all_goals (
    go_end0
    exact ⟨rfl, B2.out.set 0 _ { m with a := bits .and .u32 m.a (opd i m) } rfl, only_set (toOnly g F2.out) 0 _⟩)

set_option maxRecDepth 100000 in
set_option maxHeartbeats 2000000 in
theorem p_xor (w : World) (g : Nat) (m : Mc) (r : ByteArray) (hb : PB w g m r) (i : Ins) : PT 104 w g i r { m with a := bits .xor .u32 m.a (opd i m) } := by
  have z := hb.fz
  have hg := hb.lt
  have c0 := hb.cell 0 (.int .u32 m.a) rfl
  have c1 := hb.cell 1 (.int .u32 m.x) rfl
  have HB := hide hb
  clear hb
  unfold PT
  go_enter Tryz.func104, Tryz.ntmps104
  go_wp2_with fail
  have b1 : PB (w.alloc (.cells #[.int .u16 i.code, .int .u8 i.jt, .int .u8 i.jf, .int .u32 i.k] 29)) g m r := HB.out.alloc _
  have f1 : Fr nob w (w.alloc (.cells #[.int .u16 i.code, .int .u8 i.jt, .int .u8 i.jf, .int .u32 i.k] 29)) := (Fr.refl _ w).alloc _
  have k1 : (w.alloc (.cells #[.int .u16 i.code, .int .u8 i.jt, .int .u8 i.jf, .int .u32 i.k] 29)).heap[w.heap.size]? = some (.cells #[.int .u16 i.code, .int .u8 i.jt, .int .u8 i.jf, .int .u32 i.k] 29 (0, 0)) := heap_alloc_new w _
  have s1 := World.size_alloc w (.cells #[.int .u16 i.code, .int .u8 i.jt, .int .u8 i.jf, .int .u32 i.k] 29)
  clear z hg c0 c1
  obtain ⟨w1, hw1⟩ : ∃ w1, w1 = w.alloc (.cells #[.int .u16 i.code, .int .u8 i.jt, .int .u8 i.jf, .int .u32 i.k] 29) := ⟨_, rfl⟩
  rw [← hw1] at b1 f1 k1 s1 ⊢
  clear hw1
  have z := b1.fz
  have hg := b1.lt
  have c0 := b1.cell 0 (.int .u32 m.a) rfl
  have c1 := b1.cell 1 (.int .u32 m.x) rfl
  have v0 : w1.cell? ⟨w.heap.size, 0, none⟩ = some (.int .u16 i.code) := cell_blk k1 rfl
  have v1 : w1.cell? ⟨w.heap.size, 1, none⟩ = some (.int .u8 i.jt) := cell_blk k1 rfl
  have v2 : w1.cell? ⟨w.heap.size, 2, none⟩ = some (.int .u8 i.jf) := cell_blk k1 rfl
  have v3 : w1.cell? ⟨w.heap.size, 3, none⟩ = some (.int .u32 i.k) := cell_blk k1 rfl
  have B1 := hide b1
  have F1 := hide f1
  have K1 := hide k1
  clear b1 f1 k1
  go_region_with (go_at_call 119; refine (operand_any _ g m r (by exact B1.out) i).mono ?_; rintro e w2 ⟨rfl, f2'⟩; have f2 : Fr nob w1 w2 := ⟨f2'.os, f2'.tape, f2'.output, f2'.size, f2'.block⟩; have b2 := B1.out.fr f2 (fun h => h); have d0 := b2.cell 0 (.int .u32 m.a) rfl; have z2 := b2.fz; have hg2 := b2.lt; have B2 := hide b2; have F2 := hide (F1.out.trans f2); clear b2 f2 f2')
  all_goals (
    go_end0
    exact ⟨rfl, B2.out.set 0 _ { m with a := bits .xor .u32 m.a (opd i m) } rfl, only_set (toOnly g F2.out) 0 _⟩)
end Go.Proofs.YtjgcfffepkmojaaGreat
