import Derived.Test.YtjgcfffepkmojaaGreatPMach
namespace Go.Proofs.YtjgcfffepkmojaaGreat
open Go.RowKit
set_option linter.unusedVariables false
theorem operand_eq (w : World) (g : Nat) (m : Mc) (r : ByteArray) (hb : PB w g m r) (i : Ins) (k : Int) (hk : opd i m = k) :
    Calls Tryz.prog 119 #[.pointer (some ⟨g, 0, none⟩), .agg #[.int .u16 i.code, .int .u8 i.jt, .int .u8 i.jf, .int .u32 i.k]] w fun e w' => e = .returned (.int .u32 k) ∧ Fr nob w w' := by
  rw [← hk]
  exact operand_any w g m r hb i

set_option maxRecDepth 100000 in
set_option maxHeartbeats 2000000 in
theorem p_jump (w : World) (g : Nat) (m : Mc) (r : ByteArray) (hb : PB w g m r) (i : Ins) (kn : Nat) (hkn : i.k = (kn : Int)) (hk : kn < 4294967296) (hp : m.pc ≤ 10000) : PT 106 w g i r { m with pc := m.pc + kn } := by
  have HKN := hide hkn
  clear hkn
  have z := hb.fz
  have hg := hb.lt
  have c0 := hb.cell 0 (.int .u32 m.a) rfl
  have c1 := hb.cell 1 (.int .u32 m.x) rfl
  have HB := hide hb
  clear hb
  unfold PT
  go_enter Tryz.func106, Tryz.ntmps106
  go_wp2_with fail
  have b1 : PB (w.alloc (.cells #[.int .u16 i.code, .int .u8 i.jt, .int .u8 i.jf, .int .u32 i.k] 29)) g m r := HB.out.alloc _
  have f1 : Fr nob w (w.alloc (.cells #[.int .u16 i.code, .int .u8 i.jt, .int .u8 i.jf, .int .u32 i.k] 29)) := (Fr.refl _ w).alloc _
  have k1 : (w.alloc (.cells #[.int .u16 i.code, .int .u8 i.jt, .int .u8 i.jf, .int .u32 i.k] 29)).heap[w.heap.size]? = some (.cells #[.int .u16 i.code, .int .u8 i.jt, .int .u8 i.jf, .int .u32 i.k] 29 (0, 0)) := heap_alloc_new w _
  have s1 := World.size_alloc w (.cells #[.int .u16 i.code, .int .u8 i.jt, .int .u8 i.jf, .int .u32 i.k] 29)
  clear z hg c0 c1
  obtain ⟨w1, hw1⟩ : ∃ w1, w1 = w.alloc (.cells #[.int .u16 i.code, .int .u8 i.jt, .int .u8 i.jf, .int .u32 i.k] 29) := ⟨_, rfl⟩
  rw [← hw1] at b1 f1 k1 s1 ⊢
  clear hw1
  have z := b1.fz
  have hg := b1.lt
  have c0 := b1.cell 0 (.int .u32 m.a) rfl
  have c1 := b1.cell 1 (.int .u32 m.x) rfl
  have v0 : w1.cell? ⟨w.heap.size, 0, none⟩ = some (.int .u16 i.code) := cell_blk k1 rfl
  have v1 : w1.cell? ⟨w.heap.size, 1, none⟩ = some (.int .u8 i.jt) := cell_blk k1 rfl
  have v2 : w1.cell? ⟨w.heap.size, 2, none⟩ = some (.int .u8 i.jf) := cell_blk k1 rfl
  have v3 : w1.cell? ⟨w.heap.size, 3, none⟩ = some (.int .u32 (kn : Int)) := by rw [← HKN.out]; exact cell_blk k1 rfl
  have B1 := hide b1
  have F1 := hide f1
  have K1 := hide k1
  clear b1 f1 k1
  have c19 := B1.out.cell 19 (.int .i64 m.pc) rfl
  have hw0 : IntKind.i64.wrap (kn : Int) = (kn : Int) := by simp [IntKind.wrap_i64]; omega
  have hw2 : IntKind.i64.wrap ((m.pc : Int) + (kn : Int)) = (m.pc : Int) + (kn : Int) := by simp [IntKind.wrap_i64]; omega
  have HW := hide hw2
  go_still_tail 10, (by kernel_rfl)
  change wpList _ _ _ _ _ (World.drew _)
  go_wp2
  go_end0
  exact ⟨rfl, B1.out.set 19 _ { m with pc := m.pc + kn } (by first | rfl | (simp only [Int.natCast_add]; rfl)), (only_set (toOnly g F1.out) 19 _).drew⟩

set_option maxRecDepth 100000 in
set_option maxHeartbeats 2000000 in
theorem branch_any (w : World) (g : Nat) (m : Mc) (r : ByteArray) (hb : PB w g m r) (i : Ins) (hi : i.ok) (hp : m.pc ≤ 10000) (b : Bool) :
    Calls Tryz.prog 122 #[.pointer (some ⟨g, 0, none⟩), .agg #[.int .u16 i.code, .int .u8 i.jt, .int .u8 i.jf, .int .u32 i.k], .bool b] w fun e w' => e = .returned (.tuple #[]) ∧ PB w' g { m with pc := m.pc + (if b then i.jt else i.jf).toNat } r ∧ Fr (only g) w w' := by
  obtain ⟨_, ⟨p3, p4⟩, ⟨p5, p6⟩, _⟩ := hi
  have z := hb.fz
  have hg := hb.lt
  have c19 := hb.cell 19 (.int .i64 m.pc) rfl
  have HB := hide hb
  have hj1 : (m.pc : Int) + i.jt = ((m.pc + i.jt.toNat : Nat) : Int) := by omega
  have hj2 : (m.pc : Int) + i.jf = ((m.pc + i.jf.toNat : Nat) : Int) := by omega
  have J1 := hide hj1
  have J2 := hide hj2
  clear hb hj1 hj2
  cases b with
  | true =>
    go_enter Tryz.func122, Tryz.ntmps122
    go_wp2
    go_end0
    exact ⟨rfl, (HB.out.set 19 _ { m with pc := m.pc + i.jt.toNat } (by rw [J1.out]; rfl)).alloc _, (only_set (Fr.refl _ w) 19 _).alloc _⟩
  | false =>
    go_enter Tryz.func122, Tryz.ntmps122
    go_wp2
    go_end0
    exact ⟨rfl, (HB.out.set 19 _ { m with pc := m.pc + i.jf.toNat } (by rw [J2.out]; rfl)).alloc _, (only_set (Fr.refl _ w) 19 _).alloc _⟩

set_option maxRecDepth 100000 in
set_option maxHeartbeats 2000000 in
theorem p_ifEqual (w : World) (g : Nat) (m : Mc) (r : ByteArray) (hb : PB w g m r) (i : Ins) (hi : i.ok) (hp : m.pc ≤ 10000) (k : Int) (hk : opd i m = k) : PT 107 w g i r { m with pc := m.pc + (if (m.a == k) then i.jt else i.jf).toNat } := by
  obtain ⟨m', hm'⟩ : ∃ m' : Mc, m' = { m with pc := m.pc + (if (m.a == k) then i.jt else i.jf).toNat } := ⟨_, rfl⟩
  rw [← hm']
  have HM := hide hm'
  clear hm'
  have HI := hide hi
  have HK := hide hk
  clear hi hk
  have z := hb.fz
  have hg := hb.lt
  have c0 := hb.cell 0 (.int .u32 m.a) rfl
  have c1 := hb.cell 1 (.int .u32 m.x) rfl
  have HB := hide hb
  clear hb
  unfold PT
  go_enter Tryz.func107, Tryz.ntmps107
  go_wp2_with fail
  have b1 : PB (w.alloc (.cells #[.int .u16 i.code, .int .u8 i.jt, .int .u8 i.jf, .int .u32 i.k] 29)) g m r := HB.out.alloc _
  have f1 : Fr nob w (w.alloc (.cells #[.int .u16 i.code, .int .u8 i.jt, .int .u8 i.jf, .int .u32 i.k] 29)) := (Fr.refl _ w).alloc _
  have k1 : (w.alloc (.cells #[.int .u16 i.code, .int .u8 i.jt, .int .u8 i.jf, .int .u32 i.k] 29)).heap[w.heap.size]? = some (.cells #[.int .u16 i.code, .int .u8 i.jt, .int .u8 i.jf, .int .u32 i.k] 29 (0, 0)) := heap_alloc_new w _
  have s1 := World.size_alloc w (.cells #[.int .u16 i.code, .int .u8 i.jt, .int .u8 i.jf, .int .u32 i.k] 29)
  clear z hg c0 c1
  obtain ⟨w1, hw1⟩ : ∃ w1, w1 = w.alloc (.cells #[.int .u16 i.code, .int .u8 i.jt, .int .u8 i.jf, .int .u32 i.k] 29) := ⟨_, rfl⟩
  rw [← hw1] at b1 f1 k1 s1 ⊢
  clear hw1
  have z := b1.fz
  have hg := b1.lt
  have c0 := b1.cell 0 (.int .u32 m.a) rfl
  have c1 := b1.cell 1 (.int .u32 m.x) rfl
  have v0 : w1.cell? ⟨w.heap.size, 0, none⟩ = some (.int .u16 i.code) := cell_blk k1 rfl
  have v1 : w1.cell? ⟨w.heap.size, 1, none⟩ = some (.int .u8 i.jt) := cell_blk k1 rfl
  have v2 : w1.cell? ⟨w.heap.size, 2, none⟩ = some (.int .u8 i.jf) := cell_blk k1 rfl
  have v3 : w1.cell? ⟨w.heap.size, 3, none⟩ = some (.int .u32 i.k) := cell_blk k1 rfl
  have B1 := hide b1
  have F1 := hide f1
  have K1 := hide k1
  clear b1 f1 k1
  have hne : w.heap.size ≠ g := by have := HB.out.lt; omega
  have HNE := hide hne
  clear hne
  go_region_held3 (fun w' => w'.cell? ⟨g, 0, none⟩ = some (.int .u32 m.a) ∧ w'.cell? ⟨w.heap.size, 0, none⟩ = some (.int .u16 i.code) ∧ w'.cell? ⟨w.heap.size, 1, none⟩ = some (.int .u8 i.jt) ∧ w'.cell? ⟨w.heap.size, 2, none⟩ = some (.int .u8 i.jf) ∧ w'.cell? ⟨w.heap.size, 3, none⟩ = some (.int .u32 i.k)) (first | exact ⟨c0, v0, v1, v2, v3⟩ | exact ⟨d0, cell_blk k2 rfl, cell_blk k2 rfl, cell_blk k2 rfl, cell_blk k2 rfl⟩ | exact ⟨e0, cell_blk k3 rfl, cell_blk k3 rfl, cell_blk k3 rfl, cell_blk k3 rfl⟩)
    ((first
      | (go_at_call 119; refine (operand_eq _ g m r (by exact B1.out) i k HK.out).mono ?_; rintro e w2 ⟨rfl, f2'⟩; have f2 : Fr nob w1 w2 := ⟨f2'.os, f2'.tape, f2'.output, f2'.size, f2'.block⟩; have k2 := f2.heap K1.out (fun h => h); have b2 := B1.out.fr f2 (fun h => h); have d0 := b2.cell 0 (.int .u32 m.a) rfl)
      | (go_at_call 122; refine (branch_any _ g m r (by exact b2) i HI.out hp _).mono ?_; rintro e w3 ⟨rfl, b3, f3'⟩; have f3 : Fr (only g) w2 w3 := ⟨f3'.os, f3'.tape, f3'.output, f3'.size, f3'.block⟩; have k3 := f3.heap k2 HNE.out; have e0 := b3.cell 0 (.int .u32 m.a) rfl)))
  have F3 := hide ((toOnly g (F1.out.trans f2)).trans f3)
  have B3 := hide b3
  clear f2 f2' k2 b2 d0 f3 f3' k3 e0 b3
  go_wp2
  go_end0
  exact ⟨rfl, by rw [HM.out]; exact B3.out, F3.out⟩

set_option maxRecDepth 100000 in
set_option maxHeartbeats 2000000 in
theorem p_ifMore (w : World) (g : Nat) (m : Mc) (r : ByteArray) (hb : PB w g m r) (i : Ins) (hi : i.ok) (hp : m.pc ≤ 10000) (k : Int) (hk : opd i m = k) : PT 108 w g i r { m with pc := m.pc + (if (decide (k < m.a)) then i.jt else i.jf).toNat } := by
  obtain ⟨m', hm'⟩ : ∃ m' : Mc, m' = { m with pc := m.pc + (if (decide (k < m.a)) then i.jt else i.jf).toNat } := ⟨_, rfl⟩
  rw [← hm']
  have HM := hide hm'
  clear hm'
  have HI := hide hi
  have HK := hide hk
  clear hi hk
  have z := hb.fz
  have hg := hb.lt
  have c0 := hb.cell 0 (.int .u32 m.a) rfl
  have c1 := hb.cell 1 (.int .u32 m.x) rfl
  have HB := hide hb
  clear hb
  unfold PT
  go_enter Tryz.func108, Tryz.ntmps108
  go_wp2_with fail
  have b1 : PB (w.alloc (.cells #[.int .u16 i.code, .int .u8 i.jt, .int .u8 i.jf, .int .u32 i.k] 29)) g m r := HB.out.alloc _
  have f1 : Fr nob w (w.alloc (.cells #[.int .u16 i.code, .int .u8 i.jt, .int .u8 i.jf, .int .u32 i.k] 29)) := (Fr.refl _ w).alloc _
  have k1 : (w.alloc (.cells #[.int .u16 i.code, .int .u8 i.jt, .int .u8 i.jf, .int .u32 i.k] 29)).heap[w.heap.size]? = some (.cells #[.int .u16 i.code, .int .u8 i.jt, .int .u8 i.jf, .int .u32 i.k] 29 (0, 0)) := heap_alloc_new w _
  have s1 := World.size_alloc w (.cells #[.int .u16 i.code, .int .u8 i.jt, .int .u8 i.jf, .int .u32 i.k] 29)
  clear z hg c0 c1
  obtain ⟨w1, hw1⟩ : ∃ w1, w1 = w.alloc (.cells #[.int .u16 i.code, .int .u8 i.jt, .int .u8 i.jf, .int .u32 i.k] 29) := ⟨_, rfl⟩
  rw [← hw1] at b1 f1 k1 s1 ⊢
  clear hw1
  have z := b1.fz
  have hg := b1.lt
  have c0 := b1.cell 0 (.int .u32 m.a) rfl
  have c1 := b1.cell 1 (.int .u32 m.x) rfl
  have v0 : w1.cell? ⟨w.heap.size, 0, none⟩ = some (.int .u16 i.code) := cell_blk k1 rfl
  have v1 : w1.cell? ⟨w.heap.size, 1, none⟩ = some (.int .u8 i.jt) := cell_blk k1 rfl
  have v2 : w1.cell? ⟨w.heap.size, 2, none⟩ = some (.int .u8 i.jf) := cell_blk k1 rfl
  have v3 : w1.cell? ⟨w.heap.size, 3, none⟩ = some (.int .u32 i.k) := cell_blk k1 rfl
  have B1 := hide b1
  have F1 := hide f1
  have K1 := hide k1
  clear b1 f1 k1
  have hne : w.heap.size ≠ g := by have := HB.out.lt; omega
  have HNE := hide hne
  clear hne
  go_region_held3 (fun w' => w'.cell? ⟨g, 0, none⟩ = some (.int .u32 m.a) ∧ w'.cell? ⟨w.heap.size, 0, none⟩ = some (.int .u16 i.code) ∧ w'.cell? ⟨w.heap.size, 1, none⟩ = some (.int .u8 i.jt) ∧ w'.cell? ⟨w.heap.size, 2, none⟩ = some (.int .u8 i.jf) ∧ w'.cell? ⟨w.heap.size, 3, none⟩ = some (.int .u32 i.k)) (first | exact ⟨c0, v0, v1, v2, v3⟩ | exact ⟨d0, cell_blk k2 rfl, cell_blk k2 rfl, cell_blk k2 rfl, cell_blk k2 rfl⟩ | exact ⟨e0, cell_blk k3 rfl, cell_blk k3 rfl, cell_blk k3 rfl, cell_blk k3 rfl⟩)
    ((first
      | (go_at_call 119; refine (operand_eq _ g m r (by exact B1.out) i k HK.out).mono ?_; rintro e w2 ⟨rfl, f2'⟩; have f2 : Fr nob w1 w2 := ⟨f2'.os, f2'.tape, f2'.output, f2'.size, f2'.block⟩; have k2 := f2.heap K1.out (fun h => h); have b2 := B1.out.fr f2 (fun h => h); have d0 := b2.cell 0 (.int .u32 m.a) rfl)
      | (go_at_call 122; refine (branch_any _ g m r (by exact b2) i HI.out hp _).mono ?_; rintro e w3 ⟨rfl, b3, f3'⟩; have f3 : Fr (only g) w2 w3 := ⟨f3'.os, f3'.tape, f3'.output, f3'.size, f3'.block⟩; have k3 := f3.heap k2 HNE.out; have e0 := b3.cell 0 (.int .u32 m.a) rfl)))
  have F3 := hide ((toOnly g (F1.out.trans f2)).trans f3)
  have B3 := hide b3
  clear f2 f2' k2 b2 d0 f3 f3' k3 e0 b3
  go_wp2
  go_end0
  exact ⟨rfl, by rw [HM.out]; exact B3.out, F3.out⟩

set_option maxRecDepth 100000 in
set_option maxHeartbeats 2000000 in
theorem p_ifLeast (w : World) (g : Nat) (m : Mc) (r : ByteArray) (hb : PB w g m r) (i : Ins) (hi : i.ok) (hp : m.pc ≤ 10000) (k : Int) (hk : opd i m = k) : PT 109 w g i r { m with pc := m.pc + (if (decide (k ≤ m.a)) then i.jt else i.jf).toNat } := by
  obtain ⟨m', hm'⟩ : ∃ m' : Mc, m' = { m with pc := m.pc + (if (decide (k ≤ m.a)) then i.jt else i.jf).toNat } := ⟨_, rfl⟩
  rw [← hm']
  have HM := hide hm'
  clear hm'
  have HI := hide hi
  have HK := hide hk
  clear hi hk
  have z := hb.fz
  have hg := hb.lt
  have c0 := hb.cell 0 (.int .u32 m.a) rfl
  have c1 := hb.cell 1 (.int .u32 m.x) rfl
  have HB := hide hb
  clear hb
  unfold PT
  go_enter Tryz.func109, Tryz.ntmps109
  go_wp2_with fail
  have b1 : PB (w.alloc (.cells #[.int .u16 i.code, .int .u8 i.jt, .int .u8 i.jf, .int .u32 i.k] 29)) g m r := HB.out.alloc _
  have f1 : Fr nob w (w.alloc (.cells #[.int .u16 i.code, .int .u8 i.jt, .int .u8 i.jf, .int .u32 i.k] 29)) := (Fr.refl _ w).alloc _
  have k1 : (w.alloc (.cells #[.int .u16 i.code, .int .u8 i.jt, .int .u8 i.jf, .int .u32 i.k] 29)).heap[w.heap.size]? = some (.cells #[.int .u16 i.code, .int .u8 i.jt, .int .u8 i.jf, .int .u32 i.k] 29 (0, 0)) := heap_alloc_new w _
  have s1 := World.size_alloc w (.cells #[.int .u16 i.code, .int .u8 i.jt, .int .u8 i.jf, .int .u32 i.k] 29)
  clear z hg c0 c1
  obtain ⟨w1, hw1⟩ : ∃ w1, w1 = w.alloc (.cells #[.int .u16 i.code, .int .u8 i.jt, .int .u8 i.jf, .int .u32 i.k] 29) := ⟨_, rfl⟩
  rw [← hw1] at b1 f1 k1 s1 ⊢
  clear hw1
  have z := b1.fz
  have hg := b1.lt
  have c0 := b1.cell 0 (.int .u32 m.a) rfl
  have c1 := b1.cell 1 (.int .u32 m.x) rfl
  have v0 : w1.cell? ⟨w.heap.size, 0, none⟩ = some (.int .u16 i.code) := cell_blk k1 rfl
  have v1 : w1.cell? ⟨w.heap.size, 1, none⟩ = some (.int .u8 i.jt) := cell_blk k1 rfl
  have v2 : w1.cell? ⟨w.heap.size, 2, none⟩ = some (.int .u8 i.jf) := cell_blk k1 rfl
  have v3 : w1.cell? ⟨w.heap.size, 3, none⟩ = some (.int .u32 i.k) := cell_blk k1 rfl
  have B1 := hide b1
  have F1 := hide f1
  have K1 := hide k1
  clear b1 f1 k1
  have hne : w.heap.size ≠ g := by have := HB.out.lt; omega
  have HNE := hide hne
  clear hne
  go_region_held3 (fun w' => w'.cell? ⟨g, 0, none⟩ = some (.int .u32 m.a) ∧ w'.cell? ⟨w.heap.size, 0, none⟩ = some (.int .u16 i.code) ∧ w'.cell? ⟨w.heap.size, 1, none⟩ = some (.int .u8 i.jt) ∧ w'.cell? ⟨w.heap.size, 2, none⟩ = some (.int .u8 i.jf) ∧ w'.cell? ⟨w.heap.size, 3, none⟩ = some (.int .u32 i.k)) (first | exact ⟨c0, v0, v1, v2, v3⟩ | exact ⟨d0, cell_blk k2 rfl, cell_blk k2 rfl, cell_blk k2 rfl, cell_blk k2 rfl⟩ | exact ⟨e0, cell_blk k3 rfl, cell_blk k3 rfl, cell_blk k3 rfl, cell_blk k3 rfl⟩)
    ((first
      | (go_at_call 119; refine (operand_eq _ g m r (by exact B1.out) i k HK.out).mono ?_; rintro e w2 ⟨rfl, f2'⟩; have f2 : Fr nob w1 w2 := ⟨f2'.os, f2'.tape, f2'.output, f2'.size, f2'.block⟩; have k2 := f2.heap K1.out (fun h => h); have b2 := B1.out.fr f2 (fun h => h); have d0 := b2.cell 0 (.int .u32 m.a) rfl)
      | (go_at_call 122; refine (branch_any _ g m r (by exact b2) i HI.out hp _).mono ?_; rintro e w3 ⟨rfl, b3, f3'⟩; have f3 : Fr (only g) w2 w3 := ⟨f3'.os, f3'.tape, f3'.output, f3'.size, f3'.block⟩; have k3 := f3.heap k2 HNE.out; have e0 := b3.cell 0 (.int .u32 m.a) rfl)))
  have F3 := hide ((toOnly g (F1.out.trans f2)).trans f3)
  have B3 := hide b3
  clear f2 f2' k2 b2 d0 f3 f3' k3 e0 b3
  go_wp2
  go_end0
  exact ⟨rfl, by rw [HM.out]; exact B3.out, F3.out⟩

set_option maxRecDepth 100000 in
set_option maxHeartbeats 2000000 in
theorem p_ifBits (w : World) (g : Nat) (m : Mc) (r : ByteArray) (hb : PB w g m r) (i : Ins) (hi : i.ok) (hp : m.pc ≤ 10000) (k : Int) (hk : opd i m = k) : PT 110 w g i r { m with pc := m.pc + (if (bits .and .u32 m.a k != 0) then i.jt else i.jf).toNat } := by
  obtain ⟨m', hm'⟩ : ∃ m' : Mc, m' = { m with pc := m.pc + (if (bits .and .u32 m.a k != 0) then i.jt else i.jf).toNat } := ⟨_, rfl⟩
  rw [← hm']
  have HM := hide hm'
  clear hm'
  have HI := hide hi
  have HK := hide hk
  clear hi hk
  have z := hb.fz
  have hg := hb.lt
  have c0 := hb.cell 0 (.int .u32 m.a) rfl
  have c1 := hb.cell 1 (.int .u32 m.x) rfl
  have HB := hide hb
  clear hb
  unfold PT
  go_enter Tryz.func110, Tryz.ntmps110
  go_wp2_with fail
  have b1 : PB (w.alloc (.cells #[.int .u16 i.code, .int .u8 i.jt, .int .u8 i.jf, .int .u32 i.k] 29)) g m r := HB.out.alloc _
  have f1 : Fr nob w (w.alloc (.cells #[.int .u16 i.code, .int .u8 i.jt, .int .u8 i.jf, .int .u32 i.k] 29)) := (Fr.refl _ w).alloc _
  have k1 : (w.alloc (.cells #[.int .u16 i.code, .int .u8 i.jt, .int .u8 i.jf, .int .u32 i.k] 29)).heap[w.heap.size]? = some (.cells #[.int .u16 i.code, .int .u8 i.jt, .int .u8 i.jf, .int .u32 i.k] 29 (0, 0)) := heap_alloc_new w _
  have s1 := World.size_alloc w (.cells #[.int .u16 i.code, .int .u8 i.jt, .int .u8 i.jf, .int .u32 i.k] 29)
  clear z hg c0 c1
  obtain ⟨w1, hw1⟩ : ∃ w1, w1 = w.alloc (.cells #[.int .u16 i.code, .int .u8 i.jt, .int .u8 i.jf, .int .u32 i.k] 29) := ⟨_, rfl⟩
  rw [← hw1] at b1 f1 k1 s1 ⊢
  clear hw1
  have z := b1.fz
  have hg := b1.lt
  have c0 := b1.cell 0 (.int .u32 m.a) rfl
  have c1 := b1.cell 1 (.int .u32 m.x) rfl
  have v0 : w1.cell? ⟨w.heap.size, 0, none⟩ = some (.int .u16 i.code) := cell_blk k1 rfl
  have v1 : w1.cell? ⟨w.heap.size, 1, none⟩ = some (.int .u8 i.jt) := cell_blk k1 rfl
  have v2 : w1.cell? ⟨w.heap.size, 2, none⟩ = some (.int .u8 i.jf) := cell_blk k1 rfl
  have v3 : w1.cell? ⟨w.heap.size, 3, none⟩ = some (.int .u32 i.k) := cell_blk k1 rfl
  have B1 := hide b1
  have F1 := hide f1
  have K1 := hide k1
  clear b1 f1 k1
  have hne : w.heap.size ≠ g := by have := HB.out.lt; omega
  have HNE := hide hne
  clear hne
  go_region_held3 (fun w' => w'.cell? ⟨g, 0, none⟩ = some (.int .u32 m.a) ∧ w'.cell? ⟨w.heap.size, 0, none⟩ = some (.int .u16 i.code) ∧ w'.cell? ⟨w.heap.size, 1, none⟩ = some (.int .u8 i.jt) ∧ w'.cell? ⟨w.heap.size, 2, none⟩ = some (.int .u8 i.jf) ∧ w'.cell? ⟨w.heap.size, 3, none⟩ = some (.int .u32 i.k)) (first | exact ⟨c0, v0, v1, v2, v3⟩ | exact ⟨d0, cell_blk k2 rfl, cell_blk k2 rfl, cell_blk k2 rfl, cell_blk k2 rfl⟩ | exact ⟨e0, cell_blk k3 rfl, cell_blk k3 rfl, cell_blk k3 rfl, cell_blk k3 rfl⟩)
    ((first
      | (go_at_call 119; refine (operand_eq _ g m r (by exact B1.out) i k HK.out).mono ?_; rintro e w2 ⟨rfl, f2'⟩; have f2 : Fr nob w1 w2 := ⟨f2'.os, f2'.tape, f2'.output, f2'.size, f2'.block⟩; have k2 := f2.heap K1.out (fun h => h); have b2 := B1.out.fr f2 (fun h => h); have d0 := b2.cell 0 (.int .u32 m.a) rfl)
      | (go_at_call 122; refine (branch_any _ g m r (by exact b2) i HI.out hp _).mono ?_; rintro e w3 ⟨rfl, b3, f3'⟩; have f3 : Fr (only g) w2 w3 := ⟨f3'.os, f3'.tape, f3'.output, f3'.size, f3'.block⟩; have k3 := f3.heap k2 HNE.out; have e0 := b3.cell 0 (.int .u32 m.a) rfl)))
  have F3 := hide ((toOnly g (F1.out.trans f2)).trans f3)
  have B3 := hide b3
  clear f2 f2' k2 b2 d0 f3 f3' k3 e0 b3
  go_wp2
  go_end0
  exact ⟨rfl, by rw [HM.out]; exact B3.out, F3.out⟩

set_option maxRecDepth 100000 in
set_option maxHeartbeats 2000000 in
theorem p_retK (w : World) (g : Nat) (m : Mc) (r : ByteArray) (hb : PB w g m r) (i : Ins) : PT 111 w g i r { m with e := true, v := i.k } := by
  have z := hb.fz
  have hg := hb.lt
  have c0 := hb.cell 0 (.int .u32 m.a) rfl
  have c1 := hb.cell 1 (.int .u32 m.x) rfl
  have HB := hide hb
  clear hb
  unfold PT
  go_enter Tryz.func111, Tryz.ntmps111
  go_wp2_with fail
  refine (pEnd_any _ g m r (HB.out.alloc _) _).mono ?_
  rintro e w2 ⟨rfl, b2, f2⟩
  go_wp2
  go_end0
  exact ⟨rfl, b2, (toOnly g ((Fr.refl _ w).alloc _)).trans f2⟩

set_option maxRecDepth 100000 in
set_option maxHeartbeats 2000000 in
theorem p_retA (w : World) (g : Nat) (m : Mc) (r : ByteArray) (hb : PB w g m r) (i : Ins) : PT 112 w g i r { m with e := true, v := m.a } := by
  have z := hb.fz
  have hg := hb.lt
  have c0 := hb.cell 0 (.int .u32 m.a) rfl
  have c1 := hb.cell 1 (.int .u32 m.x) rfl
  have HB := hide hb
  clear hb
  unfold PT
  go_enter Tryz.func112, Tryz.ntmps112
  go_wp2_with fail
  refine (pEnd_any _ g m r (HB.out.alloc _) _).mono ?_
  rintro e w2 ⟨rfl, b2, f2⟩
  go_wp2
  go_end0
  exact ⟨rfl, b2, (toOnly g ((Fr.refl _ w).alloc _)).trans f2⟩

set_option maxRecDepth 100000 in
set_option maxHeartbeats 2000000 in
theorem divisor_0 (w : World) (g : Nat) (m : Mc) (r : ByteArray) (hb : PB w g m r) (i : Ins) (hk : opd i m = 0) :
    Calls Tryz.prog 120 #[.pointer (some ⟨g, 0, none⟩), .agg #[.int .u16 i.code, .int .u8 i.jt, .int .u8 i.jf, .int .u32 i.k]] w fun e w' => e = .returned (.int .u32 0) ∧ PB w' g { m with e := true, v := 0 } r ∧ Fr (only g) w w' := by
  have z := hb.fz
  have hg := hb.lt
  have c0 := hb.cell 0 (.int .u32 m.a) rfl
  have c1 := hb.cell 1 (.int .u32 m.x) rfl
  have HB := hide hb
  have HK := hide hk
  clear hb hk
  go_enter Tryz.func120, Tryz.ntmps120
  go_wp2_with fail
  have b1 : PB (w.alloc (.cells #[.int .u16 i.code, .int .u8 i.jt, .int .u8 i.jf, .int .u32 i.k] 29)) g m r := HB.out.alloc _
  have f1 : Fr nob w (w.alloc (.cells #[.int .u16 i.code, .int .u8 i.jt, .int .u8 i.jf, .int .u32 i.k] 29)) := (Fr.refl _ w).alloc _
  have k1 : (w.alloc (.cells #[.int .u16 i.code, .int .u8 i.jt, .int .u8 i.jf, .int .u32 i.k] 29)).heap[w.heap.size]? = some (.cells #[.int .u16 i.code, .int .u8 i.jt, .int .u8 i.jf, .int .u32 i.k] 29 (0, 0)) := heap_alloc_new w _
  have s1 := World.size_alloc w (.cells #[.int .u16 i.code, .int .u8 i.jt, .int .u8 i.jf, .int .u32 i.k] 29)
  clear z hg c0 c1
  obtain ⟨w1, hw1⟩ : ∃ w1, w1 = w.alloc (.cells #[.int .u16 i.code, .int .u8 i.jt, .int .u8 i.jf, .int .u32 i.k] 29) := ⟨_, rfl⟩
  rw [← hw1] at b1 f1 k1 s1 ⊢
  clear hw1
  have z := b1.fz
  have hg := b1.lt
  have c0 := b1.cell 0 (.int .u32 m.a) rfl
  have c1 := b1.cell 1 (.int .u32 m.x) rfl
  have v0 : w1.cell? ⟨w.heap.size, 0, none⟩ = some (.int .u16 i.code) := cell_blk k1 rfl
  have v1 : w1.cell? ⟨w.heap.size, 1, none⟩ = some (.int .u8 i.jt) := cell_blk k1 rfl
  have v2 : w1.cell? ⟨w.heap.size, 2, none⟩ = some (.int .u8 i.jf) := cell_blk k1 rfl
  have v3 : w1.cell? ⟨w.heap.size, 3, none⟩ = some (.int .u32 i.k) := cell_blk k1 rfl
  have B1 := hide b1
  have F1 := hide f1
  have K1 := hide k1
  clear b1 f1 k1
  go_region_held3 (fun w' => w'.cell? ⟨w.heap.size, 0, none⟩ = some (.int .u16 i.code) ∧ w'.cell? ⟨w.heap.size, 1, none⟩ = some (.int .u8 i.jt) ∧ w'.cell? ⟨w.heap.size, 2, none⟩ = some (.int .u8 i.jf) ∧ w'.cell? ⟨w.heap.size, 3, none⟩ = some (.int .u32 i.k)) (first | exact ⟨v0, v1, v2, v3⟩ | exact ⟨cell_blk k2 rfl, cell_blk k2 rfl, cell_blk k2 rfl, cell_blk k2 rfl⟩)
    ((go_at_call 119; refine (operand_eq _ g m r (by exact B1.out) i _ HK.out).mono ?_; rintro e w2 ⟨rfl, f2'⟩; have f2 : Fr nob w1 w2 := ⟨f2'.os, f2'.tape, f2'.output, f2'.size, f2'.block⟩; have k2 := f2.heap K1.out (fun h => h)))
  have B2 := hide (B1.out.fr f2 (fun h => h))
  have F2 := hide (F1.out.trans f2)
  clear f2 f2' k2 z hg c0 c1 v0 v1 v2 v3
  go_wp2_with fail
  refine (pEnd_any _ g m r (by exact B2.out) 0).mono ?_
  rintro e w3 ⟨rfl, b3, f3'⟩
  have f3 : Fr (only g) w2 w3 := ⟨f3'.os, f3'.tape, f3'.output, f3'.size, f3'.block⟩
  have B3 := hide b3
  have F3 := hide ((toOnly g F2.out).trans f3)
  clear b3 f3 f3'
  go_wp2
  go_ret
  exact ⟨rfl, B3.out, F3.out⟩

set_option maxRecDepth 100000 in
set_option maxHeartbeats 2000000 in
theorem divisor_1 (w : World) (g : Nat) (m : Mc) (r : ByteArray) (hb : PB w g m r) (i : Ins) (k : Int) (hk : opd i m = k) (h0 : (k == 0) = false) :
    Calls Tryz.prog 120 #[.pointer (some ⟨g, 0, none⟩), .agg #[.int .u16 i.code, .int .u8 i.jt, .int .u8 i.jf, .int .u32 i.k]] w fun e w' => e = .returned (.int .u32 k) ∧ PB w' g m r ∧ Fr (only g) w w' := by
  have z := hb.fz
  have hg := hb.lt
  have c0 := hb.cell 0 (.int .u32 m.a) rfl
  have c1 := hb.cell 1 (.int .u32 m.x) rfl
  have HB := hide hb
  have HK := hide hk
  clear hb hk
  go_enter Tryz.func120, Tryz.ntmps120
  go_wp2_with fail
  have b1 : PB (w.alloc (.cells #[.int .u16 i.code, .int .u8 i.jt, .int .u8 i.jf, .int .u32 i.k] 29)) g m r := HB.out.alloc _
  have f1 : Fr nob w (w.alloc (.cells #[.int .u16 i.code, .int .u8 i.jt, .int .u8 i.jf, .int .u32 i.k] 29)) := (Fr.refl _ w).alloc _
  have k1 : (w.alloc (.cells #[.int .u16 i.code, .int .u8 i.jt, .int .u8 i.jf, .int .u32 i.k] 29)).heap[w.heap.size]? = some (.cells #[.int .u16 i.code, .int .u8 i.jt, .int .u8 i.jf, .int .u32 i.k] 29 (0, 0)) := heap_alloc_new w _
  have s1 := World.size_alloc w (.cells #[.int .u16 i.code, .int .u8 i.jt, .int .u8 i.jf, .int .u32 i.k] 29)
  clear z hg c0 c1
  obtain ⟨w1, hw1⟩ : ∃ w1, w1 = w.alloc (.cells #[.int .u16 i.code, .int .u8 i.jt, .int .u8 i.jf, .int .u32 i.k] 29) := ⟨_, rfl⟩
  rw [← hw1] at b1 f1 k1 s1 ⊢
  clear hw1
  have z := b1.fz
  have hg := b1.lt
  have c0 := b1.cell 0 (.int .u32 m.a) rfl
  have c1 := b1.cell 1 (.int .u32 m.x) rfl
  have v0 : w1.cell? ⟨w.heap.size, 0, none⟩ = some (.int .u16 i.code) := cell_blk k1 rfl
  have v1 : w1.cell? ⟨w.heap.size, 1, none⟩ = some (.int .u8 i.jt) := cell_blk k1 rfl
  have v2 : w1.cell? ⟨w.heap.size, 2, none⟩ = some (.int .u8 i.jf) := cell_blk k1 rfl
  have v3 : w1.cell? ⟨w.heap.size, 3, none⟩ = some (.int .u32 i.k) := cell_blk k1 rfl
  have B1 := hide b1
  have F1 := hide f1
  have K1 := hide k1
  clear b1 f1 k1
  go_region_held3 (fun w' => w'.cell? ⟨w.heap.size, 0, none⟩ = some (.int .u16 i.code) ∧ w'.cell? ⟨w.heap.size, 1, none⟩ = some (.int .u8 i.jt) ∧ w'.cell? ⟨w.heap.size, 2, none⟩ = some (.int .u8 i.jf) ∧ w'.cell? ⟨w.heap.size, 3, none⟩ = some (.int .u32 i.k)) (first | exact ⟨v0, v1, v2, v3⟩ | exact ⟨cell_blk k2 rfl, cell_blk k2 rfl, cell_blk k2 rfl, cell_blk k2 rfl⟩)
    ((go_at_call 119; refine (operand_eq _ g m r (by exact B1.out) i _ HK.out).mono ?_; rintro e w2 ⟨rfl, f2'⟩; have f2 : Fr nob w1 w2 := ⟨f2'.os, f2'.tape, f2'.output, f2'.size, f2'.block⟩; have k2 := f2.heap K1.out (fun h => h)))
  have B2 := hide (B1.out.fr f2 (fun h => h))
  have F2 := hide (F1.out.trans f2)
  clear f2 f2' k2 z hg c0 c1 v0 v1 v2 v3
  go_wp2
  go_ret
  exact ⟨rfl, B2.out, toOnly g F2.out⟩

set_option maxRecDepth 100000 in
set_option maxHeartbeats 2000000 in
theorem p_div0 (w : World) (g : Nat) (m : Mc) (r : ByteArray) (hb : PB w g m r) (i : Ins) (hk : opd i m = 0) : PT 98 w g i r { m with e := true, v := 0 } := by
  have HK := hide hk
  clear hk
  have z := hb.fz
  have hg := hb.lt
  have c0 := hb.cell 0 (.int .u32 m.a) rfl
  have c1 := hb.cell 1 (.int .u32 m.x) rfl
  have HB := hide hb
  clear hb
  unfold PT
  go_enter Tryz.func98, Tryz.ntmps98
  go_wp2_with fail
  refine (divisor_0 _ g m r (HB.out.alloc _) i HK.out).mono ?_
  rintro e w2 ⟨rfl, b2, f2⟩
  have B2 := hide b2
  have F2 := hide ((toOnly g ((Fr.refl _ w).alloc _)).trans f2)
  clear f2 z hg c0 c1 b2
  go_wp2
  go_end0
  exact ⟨rfl, B2.out, F2.out⟩

set_option maxRecDepth 100000 in
set_option maxHeartbeats 2000000 in
theorem p_div (w : World) (g : Nat) (m : Mc) (r : ByteArray) (hb : PB w g m r) (i : Ins) (k : Int) (hk : opd i m = k) (h0 : (k == 0) = false) (hne : k ≠ 0) : PT 98 w g i r { m with a := m.a.tdiv k % 4294967296 } := by
  have HK := hide hk
  clear hk
  have z := hb.fz
  have hg := hb.lt
  have c0 := hb.cell 0 (.int .u32 m.a) rfl
  have c1 := hb.cell 1 (.int .u32 m.x) rfl
  have HB := hide hb
  clear hb
  unfold PT
  go_enter Tryz.func98, Tryz.ntmps98
  go_wp2_with fail
  refine (divisor_1 _ g m r (HB.out.alloc _) i k HK.out h0).mono ?_
  rintro e w2 ⟨rfl, b2, f2⟩
  have F2 := hide ((toOnly g ((Fr.refl _ w).alloc _)).trans f2)
  clear f2 z hg c0 c1
  have z := b2.fz
  have hg := b2.lt
  have c0 := b2.cell 0 (.int .u32 m.a) rfl
  have B2 := hide b2
  clear b2
  go_wp2
  go_end0
  exact ⟨rfl, B2.out.set 0 _ { m with a := m.a.tdiv k % 4294967296 } rfl, only_set F2.out 0 _⟩

set_option maxRecDepth 100000 in
set_option maxHeartbeats 2000000 in
theorem p_mod0 (w : World) (g : Nat) (m : Mc) (r : ByteArray) (hb : PB w g m r) (i : Ins) (hk : opd i m = 0) : PT 103 w g i r { m with e := true, v := 0 } := by
  have HK := hide hk
  clear hk
  have z := hb.fz
  have hg := hb.lt
  have c0 := hb.cell 0 (.int .u32 m.a) rfl
  have c1 := hb.cell 1 (.int .u32 m.x) rfl
  have HB := hide hb
  clear hb
  unfold PT
  go_enter Tryz.func103, Tryz.ntmps103
  go_wp2_with fail
  refine (divisor_0 _ g m r (HB.out.alloc _) i HK.out).mono ?_
  rintro e w2 ⟨rfl, b2, f2⟩
  have B2 := hide b2
  have F2 := hide ((toOnly g ((Fr.refl _ w).alloc _)).trans f2)
  clear f2 z hg c0 c1 b2
  go_wp2
  go_end0
  exact ⟨rfl, B2.out, F2.out⟩

set_option maxRecDepth 100000 in
set_option maxHeartbeats 2000000 in
theorem p_mod (w : World) (g : Nat) (m : Mc) (r : ByteArray) (hb : PB w g m r) (i : Ins) (k : Int) (hk : opd i m = k) (h0 : (k == 0) = false) (hne : k ≠ 0) : PT 103 w g i r { m with a := m.a.tmod k } := by
  have HK := hide hk
  clear hk
  have z := hb.fz
  have hg := hb.lt
  have c0 := hb.cell 0 (.int .u32 m.a) rfl
  have c1 := hb.cell 1 (.int .u32 m.x) rfl
  have HB := hide hb
  clear hb
  unfold PT
  go_enter Tryz.func103, Tryz.ntmps103
  go_wp2_with fail
  refine (divisor_1 _ g m r (HB.out.alloc _) i k HK.out h0).mono ?_
  rintro e w2 ⟨rfl, b2, f2⟩
  have F2 := hide ((toOnly g ((Fr.refl _ w).alloc _)).trans f2)
  clear f2 z hg c0 c1
  have z := b2.fz
  have hg := b2.lt
  have c0 := b2.cell 0 (.int .u32 m.a) rfl
  have B2 := hide b2
  clear b2
  go_wp2
  go_end0
  exact ⟨rfl, B2.out.set 0 _ { m with a := m.a.tmod k } rfl, only_set F2.out 0 _⟩

set_option maxRecDepth 100000 in
set_option maxHeartbeats 2000000 in
theorem p_loadAt (w : World) (g : Nat) (m : Mc) (r : ByteArray) (hb : PB w g m r) (i : Ins) (kn : Nat) (hkn : i.k = (kn : Int)) (hk : kn + 4 ≤ r.size) (hr : r.size ≤ 100) : PT 86 w g i r { m with a := wd r kn } := by
  have HKN := hide hkn
  clear hkn
  have z := hb.fz
  have hg := hb.lt
  have c0 := hb.cell 0 (.int .u32 m.a) rfl
  have c1 := hb.cell 1 (.int .u32 m.x) rfl
  have HB := hide hb
  clear hb
  unfold PT
  go_enter Tryz.func86, Tryz.ntmps86
  go_wp2_with fail
  have b1 : PB (w.alloc (.cells #[.int .u16 i.code, .int .u8 i.jt, .int .u8 i.jf, .int .u32 i.k] 29)) g m r := HB.out.alloc _
  have f1 : Fr nob w (w.alloc (.cells #[.int .u16 i.code, .int .u8 i.jt, .int .u8 i.jf, .int .u32 i.k] 29)) := (Fr.refl _ w).alloc _
  have k1 : (w.alloc (.cells #[.int .u16 i.code, .int .u8 i.jt, .int .u8 i.jf, .int .u32 i.k] 29)).heap[w.heap.size]? = some (.cells #[.int .u16 i.code, .int .u8 i.jt, .int .u8 i.jf, .int .u32 i.k] 29 (0, 0)) := heap_alloc_new w _
  have s1 := World.size_alloc w (.cells #[.int .u16 i.code, .int .u8 i.jt, .int .u8 i.jf, .int .u32 i.k] 29)
  clear z hg c0 c1
  obtain ⟨w1, hw1⟩ : ∃ w1, w1 = w.alloc (.cells #[.int .u16 i.code, .int .u8 i.jt, .int .u8 i.jf, .int .u32 i.k] 29) := ⟨_, rfl⟩
  rw [← hw1] at b1 f1 k1 s1 ⊢
  clear hw1
  have z := b1.fz
  have hg := b1.lt
  have c0 := b1.cell 0 (.int .u32 m.a) rfl
  have c1 := b1.cell 1 (.int .u32 m.x) rfl
  have v0 : w1.cell? ⟨w.heap.size, 0, none⟩ = some (.int .u16 i.code) := cell_blk k1 rfl
  have v1 : w1.cell? ⟨w.heap.size, 1, none⟩ = some (.int .u8 i.jt) := cell_blk k1 rfl
  have v2 : w1.cell? ⟨w.heap.size, 2, none⟩ = some (.int .u8 i.jf) := cell_blk k1 rfl
  have v3 : w1.cell? ⟨w.heap.size, 3, none⟩ = some (.int .u32 (kn : Int)) := by rw [← HKN.out]; exact cell_blk k1 rfl
  have B1 := hide b1
  have F1 := hide f1
  have K1 := hide k1
  clear b1 f1 k1
  have c18 := B1.out.cell 18 (.string r) rfl
  have l0 : (0 : Int) ≤ (kn : Int) := by omega
  have l1 : (kn : Int) ≤ (kn : Int) + 4 := by omega
  have l2 : (kn : Int) + 4 ≤ (r.size : Int) := by omega
  have l3 : (kn : Int) ≤ (r.size : Int) := by omega
  have l4 : IntKind.u32.wrap ((kn : Int) + 4) = (kn : Int) + 4 := u32_wrap_id _ (by omega) (by omega)
  go_quiet (fail)
  go_upto_region 2 with fail
  obtain ⟨q, hq⟩ : ∃ q, q = r.extract kn (kn + 4) := ⟨_, rfl⟩
  rw [← hq]
  have qs : q.size = 4 := by rw [hq, ByteArray.size_extract]; omega
  have e0 : ((q[0]'(by omega)).toNat : Int) = byt r kn := by subst hq; rw [ByteArray.getElem_extract]; exact byt_eq r (kn + 0) (by omega)
  have e1 : ((q[1]'(by omega)).toNat : Int) = byt r (kn + 1) := by subst hq; rw [ByteArray.getElem_extract]; exact byt_eq r (kn + 1) (by omega)
  have e2 : ((q[2]'(by omega)).toNat : Int) = byt r (kn + 2) := by subst hq; rw [ByteArray.getElem_extract]; exact byt_eq r (kn + 2) (by omega)
  have e3 : ((q[3]'(by omega)).toNat : Int) = byt r (kn + 3) := by subst hq; rw [ByteArray.getElem_extract]; exact byt_eq r (kn + 3) (by omega)
  have p4 := byt_bd r kn
  have p5 := byt_bd r (kn + 1)
  have p6 := byt_bd r (kn + 2)
  have p7 := byt_bd r (kn + 3)
  obtain ⟨b4, h4⟩ : ∃ b, b = byt r kn := ⟨_, rfl⟩
  obtain ⟨b5, h5⟩ : ∃ b, b = byt r (kn + 1) := ⟨_, rfl⟩
  obtain ⟨b6, h6⟩ : ∃ b, b = byt r (kn + 2) := ⟨_, rfl⟩
  obtain ⟨b7, h7⟩ : ∃ b, b = byt r (kn + 3) := ⟨_, rfl⟩
  rw [← h4] at e0 p4
  rw [← h5] at e1 p5
  rw [← h6] at e2 p6
  rw [← h7] at e3 p7
  have hwd : wd r kn = b4 + b5 * 256 + b6 * 65536 + b7 * 16777216 := by unfold wd; rw [h4, h5, h6, h7]
  have HWD := hide hwd
  have d4 : IntKind.u32.wrap b4 = b4 := u32_wrap_id _ (by omega) (by omega)
  have d5 : IntKind.u32.wrap b5 = b5 := u32_wrap_id _ (by omega) (by omega)
  have d6 : IntKind.u32.wrap b6 = b6 := u32_wrap_id _ (by omega) (by omega)
  have d7 : IntKind.u32.wrap b7 = b7 := u32_wrap_id _ (by omega) (by omega)
  have k5 : IntKind.u32.wrap (b5 * 256) = b5 * 256 := u32_wrap_id _ (by omega) (by omega)
  have k6 : IntKind.u32.wrap (b6 * 65536) = b6 * 65536 := u32_wrap_id _ (by omega) (by omega)
  have k7 : IntKind.u32.wrap (b7 * 16777216) = b7 * 16777216 := u32_wrap_id _ (by omega) (by omega)
  have j5 : bits .or .u32 b4 (b5 * 256) = b4 + b5 * 256 := u32_or8 _ _ (by omega) (by omega) (by omega) (by omega) (by omega)
  have j6 : bits .or .u32 (b4 + b5 * 256) (b6 * 65536) = b4 + b5 * 256 + b6 * 65536 := u32_or16 _ _ (by omega) (by omega) (by omega) (by omega) (by omega)
  have j7 : bits .or .u32 (b4 + b5 * 256 + b6 * 65536) (b7 * 16777216) = b4 + b5 * 256 + b6 * 65536 + b7 * 16777216 := u32_or24 _ _ (by omega) (by omega) (by omega) (by omega) (by omega)
  clear p4 p5 p6 p7 h4 h5 h6 h7 hwd hq l0 l1 l2 l3 l4 v0 v1 v2 v3 c18 c1 hk hr
  go_still_tail 22, (by kernel_rfl)
  change wpList _ _ _ _ _ (World.drew _)
  go_wp2
  go_end0
  refine ⟨rfl, ?_, ?_⟩
  · rw [HWD.out]
    exact PB.set (w := w1) B1.out 0 _ { m with a := b4 + b5 * 256 + b6 * 65536 + b7 * 16777216 } rfl
  · have f9 := only_set (toOnly g F1.out) 0 (.int .u32 (b4 + b5 * 256 + b6 * 65536 + b7 * 16777216))
    exact ⟨f9.os, f9.tape, f9.output, f9.size, f9.block⟩
end Go.Proofs.YtjgcfffepkmojaaGreat
