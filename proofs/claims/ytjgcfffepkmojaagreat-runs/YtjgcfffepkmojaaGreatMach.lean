import Derived.StillTailTactics
import Derived.Test.YtjgcfffepkmojaaGreatKinds
import Derived.Test.YtjgcfffepkmojaaGreatGood
import Derived.Test.YtjgcfffepkmojaaGreatWDecode
namespace Go.Proofs.YtjgcfffepkmojaaGreat
open Go.RowKit
set_option linter.unusedVariables false

/-- A run, as it stands. -/
structure Mc where
  a : Int
  x : Int
  c : Nat → Int
  pc : Nat
  e : Bool
  v : Int
def mcs (m : Mc) : List Value := [.int .u32 m.a, .int .u32 m.x, .int .u32 (m.c 0), .int .u32 (m.c 1), .int .u32 (m.c 2), .int .u32 (m.c 3), .int .u32 (m.c 4), .int .u32 (m.c 5), .int .u32 (m.c 6), .int .u32 (m.c 7),
  .int .u32 (m.c 8), .int .u32 (m.c 9), .int .u32 (m.c 10), .int .u32 (m.c 11), .int .u32 (m.c 12), .int .u32 (m.c 13), .int .u32 (m.c 14), .int .u32 (m.c 15), .int .i64 m.pc, .bool m.e, .int .u32 m.v]
/-- The block of a run. -/
def MB (w : World) (g : Nat) (m : Mc) : Prop := w.heap[g]? = some (.cells (mcs m).toArray 115)
theorem MB.lt {w : World} {g : Nat} {m : Mc} (h : MB w g m) : g < w.heap.size := (Array.getElem?_eq_some_iff.1 h).1
theorem MB.cell {w : World} {g : Nat} {m : Mc} (h : MB w g m) (j : Nat) (v : Value) (hj : (mcs m)[j]? = some v) : w.cell? ⟨g, j, none⟩ = some v := cell_blk h (by rw [List.getElem?_toArray]; exact hj)
theorem MB.fz {w : World} {g : Nat} {m : Mc} (h : MB w g m) (j : Nat) : w.frozen? ⟨g, j, none⟩ = false := frozen_blk h
theorem MB.alloc {w : World} {g : Nat} {m : Mc} (h : MB w g m) (o : Obj) : MB (w.alloc o) g m := blk_alloc h
theorem MB.set {w : World} {g : Nat} {m : Mc} (h : MB w g m) (j : Nat) (y : Value) (m' : Mc) (hj : (mcs m).set j y = mcs m') : MB (w.setCell ⟨g, j, none⟩ y) g m' := by
  unfold MB at *
  rw [heap_setCell_same _ _ _ _ _ _ h, ← hj]; simp
theorem MB.setpc {w : World} {g : Nat} {m : Mc} (h : MB w g m) (v : Int) (p : Nat) (hv : v = (p : Int)) : MB (w.setCell ⟨g, 18, none⟩ (.int .i64 v)) g { m with pc := p } := h.set 18 _ _ (by rw [hv]; rfl)
theorem MB.fr {w w' : World} {g : Nat} {m : Mc} {S : Nat → Prop} (h : MB w g m) (f : Fr S w w') (hS : ¬ S g) : MB w' g m := f.heap h hS
abbrev only (g : Nat) : Nat → Prop := fun k => k = g
theorem only_set {w w' : World} {g : Nat} (f : Fr (only g) w w') (j : Nat) (y : Value) : Fr (only g) w (w'.setCell ⟨g, j, none⟩ y) := f.setCell (p := ⟨g, j, none⟩) (fun _ => rfl) y

theorem mEnd_any (w : World) (g : Nat) (m : Mc) (hb : MB w g m) (v : Int) :
    Calls Tryz.prog 74 #[.pointer (some ⟨g, 0, none⟩), .int .u32 v] w fun e w' => e = .returned (.tuple #[]) ∧ MB w' g { m with e := true, v := v } ∧ Fr (only g) w w' := by
  have c1 := hb.cell 19 (.bool m.e) rfl
  have c2 := hb.cell 20 (.int .u32 m.v) rfl
  have z := hb.fz
  have hg := hb.lt
  have HB := hide hb
  clear hb
  go_enter Tryz.func74, Tryz.ntmps74
  go_wp2
  go_end0
  exact ⟨rfl, (HB.out.set 19 (.bool true) { m with e := true } rfl).set 20 (.int .u32 v) _ rfl, only_set (only_set (Fr.refl _ w) 19 _) 20 _⟩

set_option maxRecDepth 100000 in
set_option maxHeartbeats 2000000 in
theorem reckon_add (w : World) (g : Nat) (m : Mc) (hb : MB w g m) (sn : ByteArray) (hs : sn.toList = [43]) (k : Int) (i : Ins) :
    Calls Tryz.prog 75 #[.pointer (some ⟨g, 0, none⟩), .string sn, .int .u32 k, .agg #[.int .u16 i.code, .int .u8 i.jt, .int .u8 i.jf, .int .u32 i.k]] w fun e w' => e = .returned (.tuple #[]) ∧ MB w' g { m with a := (m.a + k) % 4294967296 } ∧ Fr (only g) w w' := by
  have c1 := hb.cell 0 (.int .u32 m.a) rfl
  have c2 := hb.cell 18 (.int .i64 m.pc) rfl
  have z := hb.fz
  have hg := hb.lt
  have ht : tstS sn = false := by unfold tstS; rw [hs]; decide
  have HB := hide hb
  have HT := hide ht
  clear hb ht
  go_enter Tryz.func75, Tryz.ntmps75
  go_wp2_with fail
  refine (tests_any _ _).mono ?_
  rintro e w1 ⟨rfl, rfl⟩
  rw [HT.out]
  go_wp2
  go_end0
  exact ⟨rfl, (HB.out.set 0 _ { m with a := (m.a + k) % 4294967296 } rfl).alloc _, (only_set (Fr.refl _ w) 0 _).alloc _⟩
set_option maxRecDepth 100000 in
set_option maxHeartbeats 2000000 in
theorem reckon_sub (w : World) (g : Nat) (m : Mc) (hb : MB w g m) (sn : ByteArray) (hs : sn.toList = [45]) (k : Int) (i : Ins) :
    Calls Tryz.prog 75 #[.pointer (some ⟨g, 0, none⟩), .string sn, .int .u32 k, .agg #[.int .u16 i.code, .int .u8 i.jt, .int .u8 i.jf, .int .u32 i.k]] w fun e w' => e = .returned (.tuple #[]) ∧ MB w' g { m with a := (m.a - k) % 4294967296 } ∧ Fr (only g) w w' := by
  have c1 := hb.cell 0 (.int .u32 m.a) rfl
  have c2 := hb.cell 18 (.int .i64 m.pc) rfl
  have z := hb.fz
  have hg := hb.lt
  have ht : tstS sn = false := by unfold tstS; rw [hs]; decide
  have HB := hide hb
  have HT := hide ht
  clear hb ht
  go_enter Tryz.func75, Tryz.ntmps75
  go_wp2_with fail
  refine (tests_any _ _).mono ?_
  rintro e w1 ⟨rfl, rfl⟩
  rw [HT.out]
  go_wp2
  go_end0
  exact ⟨rfl, (HB.out.set 0 _ { m with a := (m.a - k) % 4294967296 } rfl).alloc _, (only_set (Fr.refl _ w) 0 _).alloc _⟩
set_option maxRecDepth 100000 in
set_option maxHeartbeats 2000000 in
theorem reckon_mul (w : World) (g : Nat) (m : Mc) (hb : MB w g m) (sn : ByteArray) (hs : sn.toList = [42]) (k : Int) (i : Ins) :
    Calls Tryz.prog 75 #[.pointer (some ⟨g, 0, none⟩), .string sn, .int .u32 k, .agg #[.int .u16 i.code, .int .u8 i.jt, .int .u8 i.jf, .int .u32 i.k]] w fun e w' => e = .returned (.tuple #[]) ∧ MB w' g { m with a := m.a * k % 4294967296 } ∧ Fr (only g) w w' := by
  have c1 := hb.cell 0 (.int .u32 m.a) rfl
  have c2 := hb.cell 18 (.int .i64 m.pc) rfl
  have z := hb.fz
  have hg := hb.lt
  have ht : tstS sn = false := by unfold tstS; rw [hs]; decide
  have HB := hide hb
  have HT := hide ht
  clear hb ht
  go_enter Tryz.func75, Tryz.ntmps75
  go_wp2_with fail
  refine (tests_any _ _).mono ?_
  rintro e w1 ⟨rfl, rfl⟩
  rw [HT.out]
  go_wp2
  go_end0
  exact ⟨rfl, (HB.out.set 0 _ { m with a := m.a * k % 4294967296 } rfl).alloc _, (only_set (Fr.refl _ w) 0 _).alloc _⟩
set_option maxRecDepth 100000 in
set_option maxHeartbeats 2000000 in
theorem reckon_quo (w : World) (g : Nat) (m : Mc) (hb : MB w g m) (sn : ByteArray) (hs : sn.toList = [47]) (k : Int) (i : Ins) (hk : k ≠ 0) :
    Calls Tryz.prog 75 #[.pointer (some ⟨g, 0, none⟩), .string sn, .int .u32 k, .agg #[.int .u16 i.code, .int .u8 i.jt, .int .u8 i.jf, .int .u32 i.k]] w fun e w' => e = .returned (.tuple #[]) ∧ MB w' g { m with a := m.a.tdiv k % 4294967296 } ∧ Fr (only g) w w' := by
  have c1 := hb.cell 0 (.int .u32 m.a) rfl
  have c2 := hb.cell 18 (.int .i64 m.pc) rfl
  have z := hb.fz
  have hg := hb.lt
  have hk0 : (k == 0) = false := by rw [beq_eq_false_iff_ne]; exact hk
  have ht : tstS sn = false := by unfold tstS; rw [hs]; decide
  have HB := hide hb
  have HT := hide ht
  clear hb ht
  go_enter Tryz.func75, Tryz.ntmps75
  go_wp2_with fail
  refine (tests_any _ _).mono ?_
  rintro e w1 ⟨rfl, rfl⟩
  rw [HT.out]
  go_wp2
  go_end0
  exact ⟨rfl, (HB.out.set 0 _ { m with a := m.a.tdiv k % 4294967296 } rfl).alloc _, (only_set (Fr.refl _ w) 0 _).alloc _⟩
set_option maxRecDepth 100000 in
set_option maxHeartbeats 2000000 in
theorem reckon_rem (w : World) (g : Nat) (m : Mc) (hb : MB w g m) (sn : ByteArray) (hs : sn.toList = [37]) (k : Int) (i : Ins) (hk : k ≠ 0) :
    Calls Tryz.prog 75 #[.pointer (some ⟨g, 0, none⟩), .string sn, .int .u32 k, .agg #[.int .u16 i.code, .int .u8 i.jt, .int .u8 i.jf, .int .u32 i.k]] w fun e w' => e = .returned (.tuple #[]) ∧ MB w' g { m with a := (m.a - m.a.tdiv k % 4294967296 * k) % 4294967296 } ∧ Fr (only g) w w' := by
  have c1 := hb.cell 0 (.int .u32 m.a) rfl
  have c2 := hb.cell 18 (.int .i64 m.pc) rfl
  have z := hb.fz
  have hg := hb.lt
  have hk0 : (k == 0) = false := by rw [beq_eq_false_iff_ne]; exact hk
  have ht : tstS sn = false := by unfold tstS; rw [hs]; decide
  have HB := hide hb
  have HT := hide ht
  clear hb ht
  go_enter Tryz.func75, Tryz.ntmps75
  go_wp2_with fail
  refine (tests_any _ _).mono ?_
  rintro e w1 ⟨rfl, rfl⟩
  rw [HT.out]
  go_wp2
  go_end0
  exact ⟨rfl, (HB.out.set 0 _ { m with a := (m.a - m.a.tdiv k % 4294967296 * k) % 4294967296 } rfl).alloc _, (only_set (Fr.refl _ w) 0 _).alloc _⟩
set_option maxRecDepth 100000 in
set_option maxHeartbeats 2000000 in
theorem reckon_or (w : World) (g : Nat) (m : Mc) (hb : MB w g m) (sn : ByteArray) (hs : sn.toList = [111, 114]) (k : Int) (i : Ins) :
    Calls Tryz.prog 75 #[.pointer (some ⟨g, 0, none⟩), .string sn, .int .u32 k, .agg #[.int .u16 i.code, .int .u8 i.jt, .int .u8 i.jf, .int .u32 i.k]] w fun e w' => e = .returned (.tuple #[]) ∧ MB w' g { m with a := bits .or .u32 m.a k } ∧ Fr (only g) w w' := by
  have c1 := hb.cell 0 (.int .u32 m.a) rfl
  have c2 := hb.cell 18 (.int .i64 m.pc) rfl
  have z := hb.fz
  have hg := hb.lt
  have ht : tstS sn = false := by unfold tstS; rw [hs]; decide
  have HB := hide hb
  have HT := hide ht
  clear hb ht
  go_enter Tryz.func75, Tryz.ntmps75
  go_wp2_with fail
  refine (tests_any _ _).mono ?_
  rintro e w1 ⟨rfl, rfl⟩
  rw [HT.out]
  go_wp2
  go_end0
  exact ⟨rfl, (HB.out.set 0 _ { m with a := bits .or .u32 m.a k } rfl).alloc _, (only_set (Fr.refl _ w) 0 _).alloc _⟩
set_option maxRecDepth 100000 in
set_option maxHeartbeats 2000000 in
theorem reckon_and (w : World) (g : Nat) (m : Mc) (hb : MB w g m) (sn : ByteArray) (hs : sn.toList = [97, 110, 100]) (k : Int) (i : Ins) :
    Calls Tryz.prog 75 #[.pointer (some ⟨g, 0, none⟩), .string sn, .int .u32 k, .agg #[.int .u16 i.code, .int .u8 i.jt, .int .u8 i.jf, .int .u32 i.k]] w fun e w' => e = .returned (.tuple #[]) ∧ MB w' g { m with a := bits .and .u32 m.a k } ∧ Fr (only g) w w' := by
  have c1 := hb.cell 0 (.int .u32 m.a) rfl
  have c2 := hb.cell 18 (.int .i64 m.pc) rfl
  have z := hb.fz
  have hg := hb.lt
  have ht : tstS sn = false := by unfold tstS; rw [hs]; decide
  have HB := hide hb
  have HT := hide ht
  clear hb ht
  go_enter Tryz.func75, Tryz.ntmps75
  go_wp2_with fail
  refine (tests_any _ _).mono ?_
  rintro e w1 ⟨rfl, rfl⟩
  rw [HT.out]
  go_wp2
  go_end0
  exact ⟨rfl, (HB.out.set 0 _ { m with a := bits .and .u32 m.a k } rfl).alloc _, (only_set (Fr.refl _ w) 0 _).alloc _⟩
set_option maxRecDepth 100000 in
set_option maxHeartbeats 2000000 in
theorem reckon_xor (w : World) (g : Nat) (m : Mc) (hb : MB w g m) (sn : ByteArray) (hs : sn.toList = [120, 111, 114]) (k : Int) (i : Ins) :
    Calls Tryz.prog 75 #[.pointer (some ⟨g, 0, none⟩), .string sn, .int .u32 k, .agg #[.int .u16 i.code, .int .u8 i.jt, .int .u8 i.jf, .int .u32 i.k]] w fun e w' => e = .returned (.tuple #[]) ∧ MB w' g { m with a := bits .xor .u32 m.a k } ∧ Fr (only g) w w' := by
  have c1 := hb.cell 0 (.int .u32 m.a) rfl
  have c2 := hb.cell 18 (.int .i64 m.pc) rfl
  have z := hb.fz
  have hg := hb.lt
  have ht : tstS sn = false := by unfold tstS; rw [hs]; decide
  have HB := hide hb
  have HT := hide ht
  clear hb ht
  go_enter Tryz.func75, Tryz.ntmps75
  go_wp2_with fail
  refine (tests_any _ _).mono ?_
  rintro e w1 ⟨rfl, rfl⟩
  rw [HT.out]
  go_wp2
  go_end0
  exact ⟨rfl, (HB.out.set 0 _ { m with a := bits .xor .u32 m.a k } rfl).alloc _, (only_set (Fr.refl _ w) 0 _).alloc _⟩
set_option maxRecDepth 100000 in
set_option maxHeartbeats 2000000 in
theorem reckon_shl (w : World) (g : Nat) (m : Mc) (hb : MB w g m) (sn : ByteArray) (hs : sn.toList = [60, 60]) (k : Int) (i : Ins) (s : Int) (hks : k.tmod 32 = s) (hs0 : 0 ≤ s) (hs1 : s < 32) :
    Calls Tryz.prog 75 #[.pointer (some ⟨g, 0, none⟩), .string sn, .int .u32 k, .agg #[.int .u16 i.code, .int .u8 i.jt, .int .u8 i.jf, .int .u32 i.k]] w fun e w' => e = .returned (.tuple #[]) ∧ MB w' g { m with a := m.a * 2 ^ s.toNat % 4294967296 } ∧ Fr (only g) w w' := by
  have c1 := hb.cell 0 (.int .u32 m.a) rfl
  have c2 := hb.cell 18 (.int .i64 m.pc) rfl
  have z := hb.fz
  have hg := hb.lt
  have ht : tstS sn = false := by unfold tstS; rw [hs]; decide
  have HB := hide hb
  have HT := hide ht
  clear hb ht
  go_enter Tryz.func75, Tryz.ntmps75
  go_wp2_with fail
  refine (tests_any _ _).mono ?_
  rintro e w1 ⟨rfl, rfl⟩
  rw [HT.out]
  go_wp2
  go_end0
  exact ⟨rfl, (HB.out.set 0 _ { m with a := m.a * 2 ^ s.toNat % 4294967296 } rfl).alloc _, (only_set (Fr.refl _ w) 0 _).alloc _⟩
set_option maxRecDepth 100000 in
set_option maxHeartbeats 2000000 in
theorem reckon_shr (w : World) (g : Nat) (m : Mc) (hb : MB w g m) (sn : ByteArray) (hs : sn.toList = [62, 62]) (k : Int) (i : Ins) (s : Int) (hks : k.tmod 32 = s) (hs0 : 0 ≤ s) (hs1 : s < 32) :
    Calls Tryz.prog 75 #[.pointer (some ⟨g, 0, none⟩), .string sn, .int .u32 k, .agg #[.int .u16 i.code, .int .u8 i.jt, .int .u8 i.jf, .int .u32 i.k]] w fun e w' => e = .returned (.tuple #[]) ∧ MB w' g { m with a := m.a / 2 ^ s.toNat } ∧ Fr (only g) w w' := by
  have c1 := hb.cell 0 (.int .u32 m.a) rfl
  have c2 := hb.cell 18 (.int .i64 m.pc) rfl
  have z := hb.fz
  have hg := hb.lt
  have ht : tstS sn = false := by unfold tstS; rw [hs]; decide
  have HB := hide hb
  have HT := hide ht
  clear hb ht
  go_enter Tryz.func75, Tryz.ntmps75
  go_wp2_with fail
  refine (tests_any _ _).mono ?_
  rintro e w1 ⟨rfl, rfl⟩
  rw [HT.out]
  go_wp2
  go_end0
  exact ⟨rfl, (HB.out.set 0 _ { m with a := m.a / 2 ^ s.toNat } rfl).alloc _, (only_set (Fr.refl _ w) 0 _).alloc _⟩
set_option maxRecDepth 100000 in
set_option maxHeartbeats 2000000 in
theorem reckon_neg (w : World) (g : Nat) (m : Mc) (hb : MB w g m) (sn : ByteArray) (hs : sn.toList = [110, 101, 103]) (k : Int) (i : Ins) :
    Calls Tryz.prog 75 #[.pointer (some ⟨g, 0, none⟩), .string sn, .int .u32 k, .agg #[.int .u16 i.code, .int .u8 i.jt, .int .u8 i.jf, .int .u32 i.k]] w fun e w' => e = .returned (.tuple #[]) ∧ MB w' g { m with a := -m.a % 4294967296 } ∧ Fr (only g) w w' := by
  have c1 := hb.cell 0 (.int .u32 m.a) rfl
  have c2 := hb.cell 18 (.int .i64 m.pc) rfl
  have z := hb.fz
  have hg := hb.lt
  have ht : tstS sn = false := by unfold tstS; rw [hs]; decide
  have HB := hide hb
  have HT := hide ht
  clear hb ht
  go_enter Tryz.func75, Tryz.ntmps75
  go_wp2_with fail
  refine (tests_any _ _).mono ?_
  rintro e w1 ⟨rfl, rfl⟩
  rw [HT.out]
  go_wp2
  go_end0
  exact ⟨rfl, (HB.out.set 0 _ { m with a := -m.a % 4294967296 } rfl).alloc _, (only_set (Fr.refl _ w) 0 _).alloc _⟩
set_option maxRecDepth 100000 in
set_option maxHeartbeats 2000000 in
theorem reckon_quo0 (w : World) (g : Nat) (m : Mc) (hb : MB w g m) (sn : ByteArray) (hs : sn.toList = [47]) (k : Int) (i : Ins) (hk : k = 0) :
    Calls Tryz.prog 75 #[.pointer (some ⟨g, 0, none⟩), .string sn, .int .u32 k, .agg #[.int .u16 i.code, .int .u8 i.jt, .int .u8 i.jf, .int .u32 i.k]] w fun e w' => e = .returned (.tuple #[]) ∧ MB w' g { m with e := true, v := 0 } ∧ Fr (only g) w w' := by
  subst hk
  have hg := hb.lt
  have HB := hide hb
  clear hb
  go_enter Tryz.func75, Tryz.ntmps75
  go_wp2_with fail
  refine (mEnd_any _ g m (HB.out.alloc _) 0).mono ?_
  rintro e w1 ⟨rfl, h1, f1⟩
  have F1 : Fr (only g) w w1 := ((Fr.refl _ w).alloc _).trans f1
  clear f1
  go_wp2
  refine bodyPost_ret (results_none rfl _ _ _) rfl ?_
  exact ⟨rfl, h1, F1⟩
set_option maxRecDepth 100000 in
set_option maxHeartbeats 2000000 in
theorem reckon_rem0 (w : World) (g : Nat) (m : Mc) (hb : MB w g m) (sn : ByteArray) (hs : sn.toList = [37]) (k : Int) (i : Ins) (hk : k = 0) :
    Calls Tryz.prog 75 #[.pointer (some ⟨g, 0, none⟩), .string sn, .int .u32 k, .agg #[.int .u16 i.code, .int .u8 i.jt, .int .u8 i.jf, .int .u32 i.k]] w fun e w' => e = .returned (.tuple #[]) ∧ MB w' g { m with e := true, v := 0 } ∧ Fr (only g) w w' := by
  subst hk
  have hg := hb.lt
  have HB := hide hb
  clear hb
  go_enter Tryz.func75, Tryz.ntmps75
  go_wp2_with fail
  refine (mEnd_any _ g m (HB.out.alloc _) 0).mono ?_
  rintro e w1 ⟨rfl, h1, f1⟩
  have F1 : Fr (only g) w w1 := ((Fr.refl _ w).alloc _).trans f1
  clear f1
  go_wp2
  refine bodyPost_ret (results_none rfl _ _ _) rfl ?_
  exact ⟨rfl, h1, F1⟩
set_option maxRecDepth 100000 in
set_option maxHeartbeats 2000000 in
theorem reckon_ifeq (w : World) (g : Nat) (m : Mc) (hb : MB w g m) (sn : ByteArray) (hs : sn.toList = [105, 102, 61]) (k : Int) (i : Ins) (hi : i.ok) (hp : m.pc ≤ 10000) (b : Bool) (hq : (m.a == k) = b) :
    Calls Tryz.prog 75 #[.pointer (some ⟨g, 0, none⟩), .string sn, .int .u32 k, .agg #[.int .u16 i.code, .int .u8 i.jt, .int .u8 i.jf, .int .u32 i.k]] w fun e w' => e = .returned (.tuple #[]) ∧ MB w' g { m with pc := m.pc + (if b then i.jt else i.jf).toNat } ∧ Fr (only g) w w' := by
  obtain ⟨⟨p1, p2⟩, ⟨p3, p4⟩, ⟨p5, p6⟩, ⟨p7, p8⟩⟩ := hi
  have c1 := hb.cell 0 (.int .u32 m.a) rfl
  have c2 := hb.cell 18 (.int .i64 m.pc) rfl
  have z := hb.fz
  have hg := hb.lt
  have ht : tstS sn = true := by unfold tstS; rw [hs]; decide
  have HB := hide hb
  have HT := hide ht
  clear hb ht
  cases b with
  | true =>
    have hw : IntKind.i64.wrap ((m.pc : Int) + i.jt) = ((m.pc + i.jt.toNat : Nat) : Int) := by rw [IntKind.wrap_i64]; omega
    go_enter Tryz.func75, Tryz.ntmps75
    go_wp2_with fail
    refine (tests_any _ _).mono ?_
    rintro e w1 ⟨rfl, hw1⟩
    have hb1 : MB w1 g m := by rw [hw1]; exact HB.out.alloc _
    have k1 : w1.heap[w.heap.size]? = some (.cells #[.int .u16 i.code, .int .u8 i.jt, .int .u8 i.jf, .int .u32 i.k] 29 (0, 0)) := by rw [hw1]; exact heap_alloc_new w _
    have f1 : Fr (only g) w w1 := by rw [hw1]; exact (Fr.refl _ w).alloc _
    have d1 : w1.cell? ⟨w.heap.size, 1, none⟩ = some (.int .u8 i.jt) := cell_blk k1 rfl
    have c3 := hb1.cell 18 (.int .i64 m.pc) rfl
    have z3 := hb1.fz
    have HB1 := hide hb1
    have F1 := hide f1
    clear hw1 hb1 k1 f1 c1 c2 z
    rw [HT.out]
    go_wp2_with fail
    go_still_tail 11, (by kernel_rfl)
    change wpList _ _ _ _ _ (World.drew _)
    go_wp2
    go_end0
    exact ⟨rfl, HB1.out.setpc _ (m.pc + i.jt.toNat) (by omega), (only_set F1.out 18 _).drew⟩
  | false =>
    have hw : IntKind.i64.wrap ((m.pc : Int) + i.jf) = ((m.pc + i.jf.toNat : Nat) : Int) := by rw [IntKind.wrap_i64]; omega
    go_enter Tryz.func75, Tryz.ntmps75
    go_wp2_with fail
    refine (tests_any _ _).mono ?_
    rintro e w1 ⟨rfl, hw1⟩
    have hb1 : MB w1 g m := by rw [hw1]; exact HB.out.alloc _
    have k1 : w1.heap[w.heap.size]? = some (.cells #[.int .u16 i.code, .int .u8 i.jt, .int .u8 i.jf, .int .u32 i.k] 29 (0, 0)) := by rw [hw1]; exact heap_alloc_new w _
    have f1 : Fr (only g) w w1 := by rw [hw1]; exact (Fr.refl _ w).alloc _
    have d1 : w1.cell? ⟨w.heap.size, 2, none⟩ = some (.int .u8 i.jf) := cell_blk k1 rfl
    have c3 := hb1.cell 18 (.int .i64 m.pc) rfl
    have z3 := hb1.fz
    have HB1 := hide hb1
    have F1 := hide f1
    clear hw1 hb1 k1 f1 c1 c2 z
    rw [HT.out]
    go_wp2_with fail
    go_still_tail 11, (by kernel_rfl)
    change wpList _ _ _ _ _ (World.drew _)
    go_wp2
    go_end0
    exact ⟨rfl, HB1.out.setpc _ (m.pc + i.jf.toNat) (by omega), (only_set F1.out 18 _).drew⟩
set_option maxRecDepth 100000 in
set_option maxHeartbeats 2000000 in
theorem reckon_ifgt (w : World) (g : Nat) (m : Mc) (hb : MB w g m) (sn : ByteArray) (hs : sn.toList = [105, 102, 62]) (k : Int) (i : Ins) (hi : i.ok) (hp : m.pc ≤ 10000) (b : Bool) (hq : decide (k < m.a) = b) :
    Calls Tryz.prog 75 #[.pointer (some ⟨g, 0, none⟩), .string sn, .int .u32 k, .agg #[.int .u16 i.code, .int .u8 i.jt, .int .u8 i.jf, .int .u32 i.k]] w fun e w' => e = .returned (.tuple #[]) ∧ MB w' g { m with pc := m.pc + (if b then i.jt else i.jf).toNat } ∧ Fr (only g) w w' := by
  obtain ⟨⟨p1, p2⟩, ⟨p3, p4⟩, ⟨p5, p6⟩, ⟨p7, p8⟩⟩ := hi
  have c1 := hb.cell 0 (.int .u32 m.a) rfl
  have c2 := hb.cell 18 (.int .i64 m.pc) rfl
  have z := hb.fz
  have hg := hb.lt
  have ht : tstS sn = true := by unfold tstS; rw [hs]; decide
  have HB := hide hb
  have HT := hide ht
  clear hb ht
  cases b with
  | true =>
    have hq' : k < m.a := by simpa using hq
    have hw : IntKind.i64.wrap ((m.pc : Int) + i.jt) = ((m.pc + i.jt.toNat : Nat) : Int) := by rw [IntKind.wrap_i64]; omega
    go_enter Tryz.func75, Tryz.ntmps75
    go_wp2_with fail
    refine (tests_any _ _).mono ?_
    rintro e w1 ⟨rfl, hw1⟩
    have hb1 : MB w1 g m := by rw [hw1]; exact HB.out.alloc _
    have k1 : w1.heap[w.heap.size]? = some (.cells #[.int .u16 i.code, .int .u8 i.jt, .int .u8 i.jf, .int .u32 i.k] 29 (0, 0)) := by rw [hw1]; exact heap_alloc_new w _
    have f1 : Fr (only g) w w1 := by rw [hw1]; exact (Fr.refl _ w).alloc _
    have d1 : w1.cell? ⟨w.heap.size, 1, none⟩ = some (.int .u8 i.jt) := cell_blk k1 rfl
    have c3 := hb1.cell 18 (.int .i64 m.pc) rfl
    have z3 := hb1.fz
    have HB1 := hide hb1
    have F1 := hide f1
    clear hw1 hb1 k1 f1 c1 c2 z
    rw [HT.out]
    go_wp2_with fail
    go_still_tail 11, (by kernel_rfl)
    change wpList _ _ _ _ _ (World.drew _)
    go_wp2
    go_end0
    exact ⟨rfl, HB1.out.setpc _ (m.pc + i.jt.toNat) (by omega), (only_set F1.out 18 _).drew⟩
  | false =>
    have hq' : m.a ≤ k := by simpa using hq
    have hw : IntKind.i64.wrap ((m.pc : Int) + i.jf) = ((m.pc + i.jf.toNat : Nat) : Int) := by rw [IntKind.wrap_i64]; omega
    go_enter Tryz.func75, Tryz.ntmps75
    go_wp2_with fail
    refine (tests_any _ _).mono ?_
    rintro e w1 ⟨rfl, hw1⟩
    have hb1 : MB w1 g m := by rw [hw1]; exact HB.out.alloc _
    have k1 : w1.heap[w.heap.size]? = some (.cells #[.int .u16 i.code, .int .u8 i.jt, .int .u8 i.jf, .int .u32 i.k] 29 (0, 0)) := by rw [hw1]; exact heap_alloc_new w _
    have f1 : Fr (only g) w w1 := by rw [hw1]; exact (Fr.refl _ w).alloc _
    have d1 : w1.cell? ⟨w.heap.size, 2, none⟩ = some (.int .u8 i.jf) := cell_blk k1 rfl
    have c3 := hb1.cell 18 (.int .i64 m.pc) rfl
    have z3 := hb1.fz
    have HB1 := hide hb1
    have F1 := hide f1
    clear hw1 hb1 k1 f1 c1 c2 z
    rw [HT.out]
    go_wp2_with fail
    go_still_tail 11, (by kernel_rfl)
    change wpList _ _ _ _ _ (World.drew _)
    go_wp2
    go_end0
    exact ⟨rfl, HB1.out.setpc _ (m.pc + i.jf.toNat) (by omega), (only_set F1.out 18 _).drew⟩
set_option maxRecDepth 100000 in
set_option maxHeartbeats 2000000 in
theorem reckon_ifge (w : World) (g : Nat) (m : Mc) (hb : MB w g m) (sn : ByteArray) (hs : sn.toList = [105, 102, 62, 61]) (k : Int) (i : Ins) (hi : i.ok) (hp : m.pc ≤ 10000) (b : Bool) (hq : decide (k ≤ m.a) = b) :
    Calls Tryz.prog 75 #[.pointer (some ⟨g, 0, none⟩), .string sn, .int .u32 k, .agg #[.int .u16 i.code, .int .u8 i.jt, .int .u8 i.jf, .int .u32 i.k]] w fun e w' => e = .returned (.tuple #[]) ∧ MB w' g { m with pc := m.pc + (if b then i.jt else i.jf).toNat } ∧ Fr (only g) w w' := by
  obtain ⟨⟨p1, p2⟩, ⟨p3, p4⟩, ⟨p5, p6⟩, ⟨p7, p8⟩⟩ := hi
  have c1 := hb.cell 0 (.int .u32 m.a) rfl
  have c2 := hb.cell 18 (.int .i64 m.pc) rfl
  have z := hb.fz
  have hg := hb.lt
  have ht : tstS sn = true := by unfold tstS; rw [hs]; decide
  have HB := hide hb
  have HT := hide ht
  clear hb ht
  cases b with
  | true =>
    have hq' : k ≤ m.a := by simpa using hq
    have hw : IntKind.i64.wrap ((m.pc : Int) + i.jt) = ((m.pc + i.jt.toNat : Nat) : Int) := by rw [IntKind.wrap_i64]; omega
    go_enter Tryz.func75, Tryz.ntmps75
    go_wp2_with fail
    refine (tests_any _ _).mono ?_
    rintro e w1 ⟨rfl, hw1⟩
    have hb1 : MB w1 g m := by rw [hw1]; exact HB.out.alloc _
    have k1 : w1.heap[w.heap.size]? = some (.cells #[.int .u16 i.code, .int .u8 i.jt, .int .u8 i.jf, .int .u32 i.k] 29 (0, 0)) := by rw [hw1]; exact heap_alloc_new w _
    have f1 : Fr (only g) w w1 := by rw [hw1]; exact (Fr.refl _ w).alloc _
    have d1 : w1.cell? ⟨w.heap.size, 1, none⟩ = some (.int .u8 i.jt) := cell_blk k1 rfl
    have c3 := hb1.cell 18 (.int .i64 m.pc) rfl
    have z3 := hb1.fz
    have HB1 := hide hb1
    have F1 := hide f1
    clear hw1 hb1 k1 f1 c1 c2 z
    rw [HT.out]
    go_wp2_with fail
    go_still_tail 11, (by kernel_rfl)
    change wpList _ _ _ _ _ (World.drew _)
    go_wp2
    go_end0
    exact ⟨rfl, HB1.out.setpc _ (m.pc + i.jt.toNat) (by omega), (only_set F1.out 18 _).drew⟩
  | false =>
    have hq' : m.a < k := by simpa using hq
    have hw : IntKind.i64.wrap ((m.pc : Int) + i.jf) = ((m.pc + i.jf.toNat : Nat) : Int) := by rw [IntKind.wrap_i64]; omega
    go_enter Tryz.func75, Tryz.ntmps75
    go_wp2_with fail
    refine (tests_any _ _).mono ?_
    rintro e w1 ⟨rfl, hw1⟩
    have hb1 : MB w1 g m := by rw [hw1]; exact HB.out.alloc _
    have k1 : w1.heap[w.heap.size]? = some (.cells #[.int .u16 i.code, .int .u8 i.jt, .int .u8 i.jf, .int .u32 i.k] 29 (0, 0)) := by rw [hw1]; exact heap_alloc_new w _
    have f1 : Fr (only g) w w1 := by rw [hw1]; exact (Fr.refl _ w).alloc _
    have d1 : w1.cell? ⟨w.heap.size, 2, none⟩ = some (.int .u8 i.jf) := cell_blk k1 rfl
    have c3 := hb1.cell 18 (.int .i64 m.pc) rfl
    have z3 := hb1.fz
    have HB1 := hide hb1
    have F1 := hide f1
    clear hw1 hb1 k1 f1 c1 c2 z
    rw [HT.out]
    go_wp2_with fail
    go_still_tail 11, (by kernel_rfl)
    change wpList _ _ _ _ _ (World.drew _)
    go_wp2
    go_end0
    exact ⟨rfl, HB1.out.setpc _ (m.pc + i.jf.toNat) (by omega), (only_set F1.out 18 _).drew⟩
set_option maxRecDepth 100000 in
set_option maxHeartbeats 2000000 in
theorem reckon_ifbit (w : World) (g : Nat) (m : Mc) (hb : MB w g m) (sn : ByteArray) (hs : sn.toList = [105, 102, 38]) (k : Int) (i : Ins) (hi : i.ok) (hp : m.pc ≤ 10000) (b : Bool) (hq : (bits .and .u32 m.a k == 0) = !b) :
    Calls Tryz.prog 75 #[.pointer (some ⟨g, 0, none⟩), .string sn, .int .u32 k, .agg #[.int .u16 i.code, .int .u8 i.jt, .int .u8 i.jf, .int .u32 i.k]] w fun e w' => e = .returned (.tuple #[]) ∧ MB w' g { m with pc := m.pc + (if b then i.jt else i.jf).toNat } ∧ Fr (only g) w w' := by
  obtain ⟨⟨p1, p2⟩, ⟨p3, p4⟩, ⟨p5, p6⟩, ⟨p7, p8⟩⟩ := hi
  have c1 := hb.cell 0 (.int .u32 m.a) rfl
  have c2 := hb.cell 18 (.int .i64 m.pc) rfl
  have z := hb.fz
  have hg := hb.lt
  have ht : tstS sn = true := by unfold tstS; rw [hs]; decide
  have HB := hide hb
  have HT := hide ht
  clear hb ht
  cases b with
  | true =>
    rw [Bool.not_true] at hq
    have hw : IntKind.i64.wrap ((m.pc : Int) + i.jt) = ((m.pc + i.jt.toNat : Nat) : Int) := by rw [IntKind.wrap_i64]; omega
    go_enter Tryz.func75, Tryz.ntmps75
    go_wp2_with fail
    refine (tests_any _ _).mono ?_
    rintro e w1 ⟨rfl, hw1⟩
    have hb1 : MB w1 g m := by rw [hw1]; exact HB.out.alloc _
    have k1 : w1.heap[w.heap.size]? = some (.cells #[.int .u16 i.code, .int .u8 i.jt, .int .u8 i.jf, .int .u32 i.k] 29 (0, 0)) := by rw [hw1]; exact heap_alloc_new w _
    have f1 : Fr (only g) w w1 := by rw [hw1]; exact (Fr.refl _ w).alloc _
    have d1 : w1.cell? ⟨w.heap.size, 1, none⟩ = some (.int .u8 i.jt) := cell_blk k1 rfl
    have c3 := hb1.cell 18 (.int .i64 m.pc) rfl
    have z3 := hb1.fz
    have HB1 := hide hb1
    have F1 := hide f1
    clear hw1 hb1 k1 f1 c1 c2 z
    rw [HT.out]
    go_wp2_with fail
    go_still_tail 11, (by kernel_rfl)
    change wpList _ _ _ _ _ (World.drew _)
    go_wp2
    go_end0
    exact ⟨rfl, HB1.out.setpc _ (m.pc + i.jt.toNat) (by omega), (only_set F1.out 18 _).drew⟩
  | false =>
    rw [Bool.not_false] at hq
    have hw : IntKind.i64.wrap ((m.pc : Int) + i.jf) = ((m.pc + i.jf.toNat : Nat) : Int) := by rw [IntKind.wrap_i64]; omega
    go_enter Tryz.func75, Tryz.ntmps75
    go_wp2_with fail
    refine (tests_any _ _).mono ?_
    rintro e w1 ⟨rfl, hw1⟩
    have hb1 : MB w1 g m := by rw [hw1]; exact HB.out.alloc _
    have k1 : w1.heap[w.heap.size]? = some (.cells #[.int .u16 i.code, .int .u8 i.jt, .int .u8 i.jf, .int .u32 i.k] 29 (0, 0)) := by rw [hw1]; exact heap_alloc_new w _
    have f1 : Fr (only g) w w1 := by rw [hw1]; exact (Fr.refl _ w).alloc _
    have d1 : w1.cell? ⟨w.heap.size, 2, none⟩ = some (.int .u8 i.jf) := cell_blk k1 rfl
    have c3 := hb1.cell 18 (.int .i64 m.pc) rfl
    have z3 := hb1.fz
    have HB1 := hide hb1
    have F1 := hide f1
    clear hw1 hb1 k1 f1 c1 c2 z
    rw [HT.out]
    go_wp2_with fail
    go_still_tail 11, (by kernel_rfl)
    change wpList _ _ _ _ _ (World.drew _)
    go_wp2
    go_end0
    exact ⟨rfl, HB1.out.setpc _ (m.pc + i.jf.toNat) (by omega), (only_set F1.out 18 _).drew⟩
end Go.Proofs.YtjgcfffepkmojaaGreat
