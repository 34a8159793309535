import Derived.Test.YtjgcfffepkmojabGreatExample
import Derived.Test.YtjgcfffepkmojabGreatUpG
namespace Go.Proofs.YtjgcfffepkmojabGreat
open Go.RowKit
set_option linter.unusedVariables false

set_option maxRecDepth 100000 in
set_option maxHeartbeats 2000000 in
theorem example_g (Wd : Nat → World → List Nat → Prop) (hWd : ∀ B, Wld B (Wd B)) (w : World) (least last : Int) (hg : StepG Wd least last) :
    Calls Tryz.prog 4 #[.int .i64 least, .int .i64 last] w fun e w' => e = .returned (.bool true) ∧ Fr nob w w' := by
  have hmk : ∀ w, (Instr.makeSlice 32 (.int .i64 63) (.int .i64 63)).run Tryz.prog w = .ok (.slice (some ⟨w.heap.size, 0, none⟩) 63 63) (w.alloc (.cells z63 5)) := fun _ => by kernel_rfl
  go_enter Tryz.func4, Tryz.ntmps4
  go_wp2_with fail
  have f0 : Fr nob w (w.alloc (.cells (flat exL).toArray 29)) := (Fr.refl _ w).alloc _
  have o0 : Own (w.alloc (.cells (flat exL).toArray 29)) 29 4 (some ⟨w.heap.size, 0, none⟩) 4 4 (flat exL) :=
    ⟨rfl, .inr ⟨w.heap.size, 4, _, rfl, Nat.zero_le _, heap_alloc_new w _, by decide, by decide, rfl, rfl⟩⟩
  refine (rEncode_any _ (some ⟨w.heap.size, 0, none⟩) 4 exL (by decide) (own_view o0 (by simp)) exL_ok).mono ?_
  rintro e w1 ⟨rfl, f1⟩
  have F1 : Fr nob w w1 := f0.trans f1
  have o1 := own_fr o0 f1 (fun _ _ h => h)
  clear f0 o0 f1
  have hb32 : (toBA (enc exL)).size ≤ 10000000 := by rw [toBA_size, enc_len]; decide
  generalize toBA (enc exL) = b at hb32 ⊢
  obtain ⟨z, hcv, hz⟩ := conv63 w1
  have hz' : z.size ≤ 100 := by omega
  clear hz
  go_wp2_with fail
  have hr0 : (({ data := #[39] } : ByteArray) ++ z).size ≤ 10000000 := by rw [ByteArray.size_append]; show 1 + z.size ≤ _; omega
  generalize (({ data := #[39] } : ByteArray) ++ z) = r at hr0 ⊢
  clear hcv
  have F4 : Fr nob w (((w1.alloc (.cells z63 5)).alloc (.cells #[.int .u32 39, .slice none 0 0, .int .u32 327680] 35)).alloc (.cells #[.int .u32 0, .slice (some ⟨w1.heap.size + 1, 0, none⟩) 1 1, .int .u32 2147418112, .int .u32 0] 38)) := ((F1.alloc _).alloc _).alloc _
  have f14 : Fr nob w1 (((w1.alloc (.cells z63 5)).alloc (.cells #[.int .u32 39, .slice none 0 0, .int .u32 327680] 35)).alloc (.cells #[.int .u32 0, .slice (some ⟨w1.heap.size + 1, 0, none⟩) 1 1, .int .u32 2147418112, .int .u32 0] 38)) := (((Fr.refl _ w1).alloc _).alloc _).alloc _
  have o4 := own_fr o1 f14 (fun _ _ h => h)
  have k4 : (((w1.alloc (.cells z63 5)).alloc (.cells #[.int .u32 39, .slice none 0 0, .int .u32 327680] 35)).alloc (.cells #[.int .u32 0, .slice (some ⟨w1.heap.size + 1, 0, none⟩) 1 1, .int .u32 2147418112, .int .u32 0] 38)).heap[w1.heap.size + 1 + 1]? = some (.cells #[.int .u32 0, .slice (some ⟨w1.heap.size + 1, 0, none⟩) 1 1, .int .u32 2147418112, .int .u32 0] 38 (0, 0)) := by
    have := two_new (w1.alloc (.cells z63 5)) (.cells #[.int .u32 39, .slice none 0 0, .int .u32 327680] 35) (.cells #[.int .u32 0, .slice (some ⟨w1.heap.size + 1, 0, none⟩) 1 1, .int .u32 2147418112, .int .u32 0] 38)
    rw [World.size_alloc] at this; exact this
  have kR4 : (((w1.alloc (.cells z63 5)).alloc (.cells #[.int .u32 39, .slice none 0 0, .int .u32 327680] 35)).alloc (.cells #[.int .u32 0, .slice (some ⟨w1.heap.size + 1, 0, none⟩) 1 1, .int .u32 2147418112, .int .u32 0] 38)).heap[w1.heap.size + 1]? = some (.cells #[.int .u32 39, .slice none 0 0, .int .u32 327680] 35 (0, 0)) := by
    have := blk_alloc (o' := .cells #[.int .u32 0, .slice (some ⟨w1.heap.size + 1, 0, none⟩) 1 1, .int .u32 2147418112, .int .u32 0] 38) (heap_alloc_new (w1.alloc (.cells z63 5)) (.cells #[.int .u32 39, .slice none 0 0, .int .u32 327680] 35))
    rw [World.size_alloc] at this; exact this
  generalize (((w1.alloc (.cells z63 5)).alloc (.cells #[.int .u32 39, .slice none 0 0, .int .u32 327680] 35)).alloc (.cells #[.int .u32 0, .slice (some ⟨w1.heap.size + 1, 0, none⟩) 1 1, .int .u32 2147418112, .int .u32 0] 38)) = w4 at F4 f14 o4 k4 kR4 ⊢
  have p0 : w4.cell? ⟨w1.heap.size + 1 + 1, 0, none⟩ = some (.int .u32 0) := cell_blk k4 rfl
  have p1 : w4.cell? ⟨w1.heap.size + 1 + 1, 1, none⟩ = some (.slice (some ⟨w1.heap.size + 1, 0, none⟩) 1 1) := cell_blk k4 rfl
  have p2 : w4.cell? ⟨w1.heap.size + 1 + 1, 2, none⟩ = some (.int .u32 2147418112) := cell_blk k4 rfl
  have p3 : w4.cell? ⟨w1.heap.size + 1 + 1, 3, none⟩ = some (.int .u32 0) := cell_blk k4 rfl
  clear o1 F1 f14
  go_region_held3 (fun w' => w'.cell? ⟨w1.heap.size + 1 + 1, 0, none⟩ = some (.int .u32 0) ∧ w'.cell? ⟨w1.heap.size + 1 + 1, 1, none⟩ = some (.slice (some ⟨w1.heap.size + 1, 0, none⟩) 1 1) ∧ w'.cell? ⟨w1.heap.size + 1 + 1, 2, none⟩ = some (.int .u32 2147418112) ∧ w'.cell? ⟨w1.heap.size + 1 + 1, 3, none⟩ = some (.int .u32 0)) (go_keep) (fail)
  have hA4 : w.heap.size < w4.heap.size := own_lt o4 (by simp [bk, Value.ownBlock])
  have hU : ∀ W : World, W.heap[w4.heap.size + 1]? = some (.cells (ocs (exOps w.heap.size (w1.heap.size + 1) w4.heap.size b r)).toArray 41 (0, 0)) → W.heap[w4.heap.size]? = some (.cells #[.string b] 9 (0, 0)) → Fr nob w4 W →
      Calls Tryz.prog 5 #[.slice (some ⟨w4.heap.size + 1, 0, none⟩) 9 9, .int .i64 least, .int .i64 last] W fun e w' => e = .returned (.int .i64 (-1)) ∧ Fr nob W w' := fun W hW hT fW =>
    upto_g W (some ⟨w4.heap.size + 1, 0, none⟩) 9 (exOps w.heap.size (w1.heap.size + 1) w4.heap.size b r) least last
      (.inr ⟨w4.heap.size + 1, 0, rfl, fun j v hj => by rw [Nat.zero_add]; exact cell_blk hW (by rw [List.getElem?_toArray]; exact hj)⟩)
      (exOps_len _ _ _ _ _)
      (exOps_ok (own_fr o4 fW (fun _ _ h => h)) (by have := fW.size; omega) hb32 hr0 (Array.getElem?_eq_some_iff.1 (fW.heap kR4 (fun h => h))).1 (fW.heap kR4 (fun h => h)) (Array.getElem?_eq_some_iff.1 hT).1 hT)
      (Wd _) (hWd _) (by show 116 ≤ 80000000; decide) (fun o _ h1 h2 w1 hs hA hl ho => hg _ o h1 h2 w1 hs hA hl ho)
  have HU := hide hU
  clear hU p0 p1 p2 p3 k4 o4 hg kR4
  go_wp2_with fail
  refine (HU.out _ ?u1 ?u3 ?u2).mono ?_
  case u1 => exact two_new w4 _ _
  case u3 => exact blk_alloc (heap_alloc_new w4 _)
  case u2 => exact ((((Fr.refl nob w4).alloc _).alloc _).like rfl rfl rfl rfl)
  rintro e w5 ⟨rfl, f5⟩
  have F5 : Fr nob w w5 := Fr.trans (by exact ((F4.alloc _).alloc _).like rfl rfl rfl rfl) f5
  clear F4 f5 HU
  go_wp2
  go_ret
  exact ⟨rfl, F5⟩

#print axioms example_g
end Go.Proofs.YtjgcfffepkmojabGreat
