import Derived.Test.YtjgcfffepkmojabGreatStill
import Derived.Lib.AppendZerosOnto
import Derived.Lib.AppendZeros
import Derived.Test.YtjgcfffepkmojabGreatCSpec
import Derived.Deep.RegionHeld3
import Derived.RangeFuncNested
import Derived.RangeFuncBound
import Derived.RangeFuncCalls
import Derived.RangeFuncLeaves
import Derived.Shelf.Abstract
import Derived.Shelf.RegionOpen
import Derived.WalkKit
import Derived.OwnWalkIn
import Derived.TacticsInMore
import Derived.LoopNIn
import Derived.LoopIn
namespace Go.Proofs.YtjgcfffepkmojabGreat
open Go.RowKit
set_option linter.unusedVariables false

/-! ### What puts instructions together -/
set_option maxRecDepth 100000 in
set_option maxHeartbeats 4000000 in
/-- Room for so many, in a new row. -/
theorem grow_new (w : World) (n : Nat) (h0 : 0 < n) (hn : n ≤ 100000) :
    Calls Tryz.prog 121 #[.slice none 0 0, .int .i64 (n : Int)] w fun e w' => ∃ g c, e = .returned (.slice (some ⟨g, 0, none⟩) 0 c) ∧ Own w' 29 4 (some ⟨g, 0, none⟩) 0 c [] ∧ w.heap.size ≤ g ∧ Fr nob w w' := by
  obtain ⟨i0, hi, hz0, hz1, hz2⟩ := info_parts info_insn
  have h1 : ¬ ((n : Int) < 0) := by omega
  have h2 : wrap64 ((0 : Int) - 0) = 0 := by unfold wrap64; omega
  have h3 : wrap64 ((n : Int) - 0) = (n : Int) := by unfold wrap64; omega
  have h3' : wrap64 (n : Int) = (n : Int) := by unfold wrap64; omega
  have h4 : (n : Int) > 0 := by omega
  have hG := grownCap_ge w n 0 29
  have hM := grownCap_le_maxLen w n 0 29 (by unfold maxLen; omega)
  have hrz : ∀ ty, (Builtin.append_ #[30, 3] ty #[.slice none 0 0, .int .i64 (n : Int)]).run Tryz.prog w =
      .ok (.slice (some ⟨w.heap.size, 0, none⟩) n (grownCap w n 0 29)) (w.drew.alloc (.cells (#[] ++ Builtin.zeroCells (Value.agg #[.int .u16 0, .int .u8 0, .int .u8 0, .int .u32 0]).cells n ++ Builtin.zeroCells (Value.agg #[.int .u16 0, .int .u8 0, .int .u8 0, .int .u32 0]).cells (grownCap w n 0 29 - n)) 29)) := fun ty => by
    have h := Lib.run_append_grow_zeros w 30 3 ty 29 i0 _ .i64 .i64 Tryz.underlying30 Tryz.underlying3 hi hz0 none 0 0 [] (run_firstCells_none w.drew i0.size 0 0 0) n h0 (by omega) (by omega) (by omega) (by rw [hz2]; omega) (growslice_fits (by omega) (by rw [hz2]; omega))
    simpa using h
  obtain ⟨G, hGe⟩ : ∃ G, G = grownCap w n 0 29 := ⟨_, rfl⟩
  rw [← hGe] at hrz hG hM
  have hM' : G ≤ 9223372036854775807 := by unfold maxLen at hM; omega
  have HM := hide hM
  clear hGe hM
  obtain ⟨W1, hW1⟩ : ∃ W1, W1 = (w.drew.alloc (.cells (#[] ++ Builtin.zeroCells (Value.agg #[.int .u16 0, .int .u8 0, .int .u8 0, .int .u32 0]).cells n ++ Builtin.zeroCells (Value.agg #[.int .u16 0, .int .u8 0, .int .u8 0, .int .u32 0]).cells (G - n)) 29)) := ⟨_, rfl⟩
  rw [← hW1] at hrz
  have OW : Hid (Own W1 29 4 (some ⟨w.heap.size, 0, none⟩) 0 G []) := by
    rw [hW1]
    refine ⟨by simp, .inr ⟨w.heap.size, _, _, rfl, Nat.zero_le _, heap_alloc_new w.drew _, Nat.zero_le _, HM.out, ?_, by simp⟩⟩
    simp only [Array.size_append, size_zeroCells, Value.cells]
    simp
    omega
  have FW : Hid (Fr nob w W1) := by rw [hW1]; exact ((Fr.refl _ w).drew).alloc _
  clear hW1
  go_enter Tryz.func121, Tryz.ntmps121
  go_wp2_with (at_builtin; refine Lib.wpList_append_run _ rfl _ _ _ _ rfl _ _ rfl rfl _ _ (hrz _) ?_)
  all_goals (go_ret; exact ⟨_, _, rfl, OW.out, Nat.le_refl _, FW.out⟩)

/-- Nothing is appended. -/
theorem run_append_none (w : World) (ty : TypeId) (base : Option Addr) (n c : Nat) (hle : n ≤ c) :
    (Builtin.append_ #[30, 30] ty #[.slice base n c, .slice none 0 0]).run Tryz.prog w = .ok (.slice base n c) w := by
  obtain ⟨i0, hi, hz0, hz1, hz2⟩ := info_parts info_insn
  cases base <;> simp [Builtin.append_, run_underlying Tryz.underlying30, sizeOf, typeInfo, hi, Builtin.lenOf, hle, run_firstCells_none, storeCells]
theorem own_le {w : World} {e : TypeId} {size g n cap : Nat} {xs : List Value} (h : Own w e size (some ⟨g, 0, none⟩) n cap xs) : n ≤ cap := by
  rcases h.2 with ⟨hv, _⟩ | ⟨g', cap', cur, hv, _, _, hc, _⟩
  · simp at hv
  · simp only [Value.slice.injEq] at hv
    omega

set_option maxRecDepth 100000 in
set_option maxHeartbeats 4000000 in
theorem concat_any (w : World) (b : Nat) (fa la : Option Addr) (fc lc : Nat) (F L : List Ins) (hb : w.heap[b]? = some (.cells #[.slice fa F.length fc, .slice la L.length lc] 30 (0, 0)))
    (hF : F ≠ []) (vF : View w fa (flat F)) (vL : View w la (flat L)) (hnil : L = [] → la = none ∧ lc = 0) (h1 : F.length ≤ 10000) (h2 : L.length ≤ 10000) :
    Calls Tryz.prog 111 #[.slice (some ⟨b, 0, none⟩) 2 2] w fun e w' => ∃ g c, e = .returned (.slice (some ⟨g, 0, none⟩) (F.length + L.length) c) ∧ Own w' 29 4 (some ⟨g, 0, none⟩) (F.length + L.length) c (flat (F ++ L)) ∧ w.heap.size ≤ g ∧ Fr nob w w' := by
  obtain ⟨i0, hi, hz0, hz1, hz2⟩ := info_parts info_insn
  have HB := hide hb
  have c0 : w.cell? ⟨b, 0, none⟩ = some (.slice fa F.length fc) := cell_blk hb rfl
  have c1 : w.cell? ⟨b, 1, none⟩ = some (.slice la L.length lc) := cell_blk hb rfl
  have VF := hide vF
  have VL := hide vL
  have HF := hide hF
  have HNIL := hide hnil
  have hpos : 0 < F.length := List.length_pos_iff.2 hF
  have hneF : flat F ≠ [] := by intro e; have := flat_len F; rw [e] at this; simp at this; omega
  have HNE := hide hneF
  have a1 : wrap64 (0 + (F.length : Int)) = (F.length : Int) := by unfold wrap64; omega
  have a1' : wrap64 (F.length : Int) = (F.length : Int) := by unfold wrap64; omega
  have a2 : wrap64 ((F.length : Int) + (L.length : Int)) = ((F.length + L.length : Nat) : Int) := by unfold wrap64; omega
  clear hb vF vL hF hnil hneF
  go_enter Tryz.func111, Tryz.ntmps111
  go_wp2_with fail
  go_loopw [3, 11] (fun s y wr => ((y = .int .i64 0 ∧ s = .int .i64 0) ∨ (y = .int .i64 1 ∧ s = .int .i64 (F.length : Int)) ∨ (y = .int .i64 2 ∧ s = .int .i64 ((F.length + L.length : Nat) : Int))) ∧ w = wr) (fun _ y _ => 2 - (intOf y).toNat)
  case atStart => exact ⟨.inl ⟨rfl, rfl⟩, rfl⟩
  case round =>
    obtain ⟨hrel, rfl⟩ := hrel
    rcases hrel with ⟨rfl, rfl⟩ | ⟨rfl, rfl⟩ | ⟨rfl, rfl⟩
    · have g1 : ¬ ((F.length : Int) < 0) := by omega
      go_wp2
      refine ⟨⟨.inr (.inl ⟨by go_num, rfl⟩), by first | rfl | trivial⟩, ?_⟩
      simp [intOf]
    · have g1 : ¬ (((F.length + L.length : Nat) : Int) < 0) := by omega
      go_wp2
      refine ⟨⟨.inr (.inr ⟨by go_num, rfl⟩), by first | rfl | trivial⟩, ?_⟩
      simp [intOf]
    · go_wp2_with fail
      refine (grow_new _ (F.length + L.length) (by omega) (by omega)).mono ?_
      rintro e w1 ⟨g, c, rfl, o1, hg, f1⟩
      have O1 := hide o1
      have F1 := hide f1
      have hs1 := f1.size
      clear o1 f1 c0 c1
      go_wp2_with fail
      go_loopw [6, 27] (fun l y wr => ∃ (g c : Nat), ((y = .int .i64 0 ∧ l = .slice (some ⟨g, 0, none⟩) 0 c ∧ Own wr 29 4 (some ⟨g, 0, none⟩) 0 c []) ∨ (y = .int .i64 1 ∧ l = .slice (some ⟨g, 0, none⟩) F.length c ∧ Own wr 29 4 (some ⟨g, 0, none⟩) F.length c (flat F)) ∨
        (y = .int .i64 2 ∧ l = .slice (some ⟨g, 0, none⟩) (F.length + L.length) c ∧ Own wr 29 4 (some ⟨g, 0, none⟩) (F.length + L.length) c (flat (F ++ L)))) ∧ w.heap.size ≤ g ∧ Fr nob w wr) (fun _ y _ => 2 - (intOf y).toNat)
      case atStart => exact ⟨g, c, .inl ⟨rfl, rfl, O1.out⟩, by omega, F1.out⟩
      case round =>
        clear O1 F1 hs1 hg
        rename World => wx
        obtain ⟨g, c, hrel, hg, f⟩ := hrel
        have d0 : wx.cell? ⟨b, 0, none⟩ = some (.slice fa F.length fc) := cell_blk (f.heap HB.out (fun h => h)) rfl
        have d1 : wx.cell? ⟨b, 1, none⟩ = some (.slice la L.length lc) := cell_blk (f.heap HB.out (fun h => h)) rfl
        have VFx := hide (VF.out.fr0 f)
        have VLx := hide (VL.out.fr0 f)
        have FX := hide f
        clear f
        rcases hrel with ⟨rfl, rfl, o⟩ | ⟨rfl, rfl, o⟩ | ⟨rfl, rfl, o⟩
        · obtain ⟨fb, fo, rfl, hseg⟩ := VFx.out.some HNE.out
          have O := hide o
          have HSG := hide hseg
          clear o hseg
          go_wp2_with (at_builtin; refine wpList_append_keep _ rfl _ _ 30 rfl 29 i0 _ 4 8 Tryz.underlying30 hi hz0 hz1 hz2 rfl (by decide) _ _ _ [] rfl O.out ⟨fb, fo, none⟩ F.length fc (flat F) rfl (flat_len F) ?c1 (flat_oneCell F) hpos ?c3 ?c4 wx.heap.size rfl ?_)
          case c1 => intro j u hj; rw [Addr.add_lit]; exact HSG.out j u hj
          case c3 => unfold maxLen; omega
          case c4 => omega
          intro g2 c2 w5 o5 _ f5 hat
          have hsz := FX.out.size
          have F5 : Hid (Fr nob w w5) := FX.out.step f5 (fun j hj e => by simp only [bk, Value.ownBlock, Option.some.injEq] at e; omega)
          have hg2 : w.heap.size ≤ g2 := by
            rcases hat with h | h
            · simp only [bk, Value.ownBlock, Option.some.injEq] at h; omega
            · omega
          have O5 := hide o5
          clear o5 f5 hat hsz
          go_wp2
          refine ⟨⟨g2, c2, .inr (.inl ⟨by go_num, rfl, O5.out⟩), hg2, F5.out⟩, ?_⟩
          simp [intOf]
        · by_cases hL : L = []
          · obtain ⟨rfl, rfl⟩ := HNIL.out hL
            have hcap := own_le o
            have d1' : wx.cell? ⟨b, 1, none⟩ = some (.slice none 0 0) := by rw [d1, hL]; rfl
            have O : Hid (Own wx 29 4 (some ⟨g, 0, none⟩) (F.length + L.length) c (flat (F ++ L))) := hide (by rw [hL]; simpa using o)
            have hL0 : F.length = F.length + L.length := by rw [hL]; rfl
            have HL0 := hide hL0
            clear o d1 hL hL0
            go_wp2_with (at_builtin; refine Lib.wpList_append_run _ rfl _ _ _ _ rfl _ _ rfl rfl _ _ (run_append_none _ _ _ _ _ hcap) ?_)
            go_roundw
            case rel => exact ⟨g, c, .inr (.inr ⟨by go_num, by rw [← HL0.out], O.out⟩), hg, FX.out⟩
            case measure => simp [intOf]
          · have hneL : flat L ≠ [] := by
              intro e
              have h := flat_len L
              rw [e] at h
              simp only [List.length_nil] at h
              exact hL (List.eq_nil_of_length_eq_zero (by omega))
            have hposL : 0 < L.length := List.length_pos_iff.2 hL
            obtain ⟨fb, fo, rfl, hseg⟩ := VLx.out.some hneL
            have O := hide o
            have HSG := hide hseg
            clear o hseg hneL
            go_wp2_with (at_builtin; refine wpList_append_keep _ rfl _ _ 30 rfl 29 i0 _ 4 8 Tryz.underlying30 hi hz0 hz1 hz2 rfl (by decide) _ _ _ (flat F) rfl O.out ⟨fb, fo, none⟩ L.length lc (flat L) rfl (flat_len L) ?c1 (flat_oneCell L) hposL ?c3 ?c4 wx.heap.size rfl ?_)
            case c1 => intro j u hj; rw [Addr.add_lit]; exact HSG.out j u hj
            case c3 => unfold maxLen; omega
            case c4 => omega
            intro g2 c2 w5 o5 _ f5 hat
            have hsz := FX.out.size
            have F5 : Hid (Fr nob w w5) := FX.out.step f5 (fun j hj e => by simp only [bk, Value.ownBlock, Option.some.injEq] at e; omega)
            have hg2 : w.heap.size ≤ g2 := by
              rcases hat with h | h
              · simp only [bk, Value.ownBlock, Option.some.injEq] at h; omega
              · omega
            rw [← flat_append] at o5
            have O5 := hide o5
            clear o5 f5 hat hsz
            go_wp2
            refine ⟨⟨g2, c2, .inr (.inr ⟨by go_num, rfl, O5.out⟩), hg2, F5.out⟩, ?_⟩
            simp [intOf]
        · have O := hide o
          clear o
          go_wp2
          go_ret
          exact ⟨_, _, rfl, O.out, hg, FX.out⟩

set_option maxRecDepth 100000 in
set_option maxHeartbeats 4000000 in
/-- Instructions ahead of a list, in new memory. -/
theorem ahead_any (w : World) (fa la : Option Addr) (fc lc : Nat) (F L : List Ins) (hF : F ≠ []) (vF : View w fa (flat F)) (vL : View w la (flat L)) (hnil : L = [] → la = none ∧ lc = 0) (h1 : F.length ≤ 10000) (h2 : L.length ≤ 10000) :
    Calls Tryz.prog 64 #[.slice la L.length lc, .slice fa F.length fc] w fun e w' => ∃ g c, e = .returned (.slice (some ⟨g, 0, none⟩) (F.length + L.length) c) ∧ Own w' 29 4 (some ⟨g, 0, none⟩) (F.length + L.length) c (flat (F ++ L)) ∧ w.heap.size ≤ g ∧ Fr nob w w' := by
  have fa1 : Fr nob w (w.alloc (.cells #[.slice fa F.length fc, .slice la L.length lc] 30)) := (Fr.refl _ w).alloc _
  have HC := hide (concat_any _ w.heap.size fa la fc lc F L (heap_alloc_new w _) hF (vF.fr0 fa1) (vL.fr0 fa1) hnil h1 h2)
  have FA := hide fa1
  clear fa1 vF vL hnil hF h1 h2
  go_enter Tryz.func64, Tryz.ntmps64
  go_wp2_with fail
  refine HC.out.mono ?_
  rintro e w1 ⟨g, c, rfl, o1, hg, f1⟩
  have O1 := hide o1
  have F1 := hide (FA.out.trans f1)
  have hg' : w.heap.size ≤ g := by rw [World.size_alloc] at hg; omega
  clear o1 f1 HC FA
  go_wp2
  go_ret
  exact ⟨_, _, rfl, O1.out, hg', F1.out⟩
#print axioms ahead_any
end Go.Proofs.YtjgcfffepkmojabGreat

namespace Go.Proofs.YtjgcfffepkmojabGreat
open Go.RowKit
set_option linter.unusedVariables false

abbrev insV (x : Ins) : Value := .agg #[.int .u16 x.code, .int .u8 x.jt, .int .u8 x.jf, .int .u32 x.k]
set_option maxHeartbeats 2000000 in
theorem load_any (w : World) (a : Int) : Calls Tryz.prog 68 #[.int .u32 a] w fun e w' => e = .returned (insV (ld a)) ∧ Fr nob w w' := by
  go_enter Tryz.func68, Tryz.ntmps68
  go_wp2
  exact bodyPost_ret (v := insV (ld a)) (by simp [results, Tryz.results68, go_sem]) rfl ⟨rfl, (Fr.refl _ w).alloc _⟩
set_option maxHeartbeats 2000000 in
theorem verdict_ins (w : World) (v : Int) : Calls Tryz.prog 65 #[.int .u32 v] w fun e w' => e = .returned (insV (vd v)) ∧ Fr nob w w' := by
  go_enter Tryz.func65, Tryz.ntmps65
  go_wp2
  exact bodyPost_ret (v := insV (vd v)) (by simp [results, Tryz.results65, go_sem]) rfl ⟨rfl, (Fr.refl _ w).alloc _⟩
set_option maxHeartbeats 2000000 in
theorem coBranch_any (w : World) (c k : Int) (y n : Nat) (hy : y ≤ 255) (hn : n ≤ 255) : Calls Tryz.prog 69 #[.int .u16 c, .int .u32 k, .int .i64 (y : Int), .int .i64 (n : Int)] w fun e w' => e = .returned (insV (br c k y n)) ∧ Fr nob w w' := by
  have h1 : (y : Int) % 256 = y := by omega
  have h2 : (n : Int) % 256 = n := by omega
  go_enter Tryz.func69, Tryz.ntmps69
  go_wp2
  exact bodyPost_ret (v := insV (br c k y n)) (by simp [results, Tryz.results69, go_sem]) rfl ⟨rfl, (Fr.refl _ w).alloc _⟩

theorem frC {w w' : World} {a : Addr} {v : Value} (f : Fr nob w w') (h : w.cell? a = some v) : w'.cell? a = some v := by
  rw [World.cell?_of_block (f.block a.block (World.block_lt_of_cell? w _ h) (fun e => e))]; exact h
/-- A new slice of so many instructions, as the walk lays it. -/
theorem viewI_new (w : World) (F : List Ins) : View (w.alloc (.cells (flat F).toArray 29)) (some ⟨w.heap.size, 0, none⟩) (flat F) :=
  .inr ⟨w.heap.size, 0, rfl, fun j v hj => by
    rw [Nat.zero_add]
    exact cell_blk (heap_alloc_new w _) (by simpa using hj)⟩
/-- The same, in whatever world is like it. -/
theorem load_fr {w0 wx : World} (f : Fr nob w0 wx) (a : Int) : Calls Tryz.prog 68 #[.int .u32 a] wx fun e w' => e = .returned (insV (ld a)) ∧ Fr nob w0 w' := (load_any wx a).mono fun _ _ h => ⟨h.1, f.trans h.2⟩
theorem verdict_fr {w0 wx : World} (f : Fr nob w0 wx) (a : Int) : Calls Tryz.prog 65 #[.int .u32 a] wx fun e w' => e = .returned (insV (vd a)) ∧ Fr nob w0 w' := (verdict_ins wx a).mono fun _ _ h => ⟨h.1, f.trans h.2⟩
theorem branch_fr {w0 wx : World} (f : Fr nob w0 wx) (c k : Int) (y n : Nat) (hy : y ≤ 255) (hn : n ≤ 255) : Calls Tryz.prog 69 #[.int .u16 c, .int .u32 k, .int .i64 (y : Int), .int .i64 (n : Int)] wx fun e w' => e = .returned (insV (br c k y n)) ∧ Fr nob w0 w' := (coBranch_any wx c k y n hy hn).mono fun _ _ h => ⟨h.1, f.trans h.2⟩
/-- New instructions, as the walk lays them, ahead of a list. -/
theorem ahead_new {w0 wx : World} (w1 : World) (F : List Ins) (f01 : Fr nob w0 w1) (f : Fr nob (w1.alloc (.cells (flat F).toArray 29)) wx) (hF : F ≠ []) (la : Option Addr) (lc : Nat) (L : List Ins) (vL : View w0 la (flat L)) (hnil : L = [] → la = none ∧ lc = 0) (fc : Nat) (h1 : F.length ≤ 10000) (h2 : L.length ≤ 10000) :
    Calls Tryz.prog 64 #[.slice la L.length lc, .slice (some ⟨w1.heap.size, 0, none⟩) F.length fc] wx fun e w' => ∃ g c, e = .returned (.slice (some ⟨g, 0, none⟩) (F.length + L.length) c) ∧ Own w' 29 4 (some ⟨g, 0, none⟩) (F.length + L.length) c (flat (F ++ L)) ∧ w0.heap.size ≤ g ∧ Fr nob w0 w' := by
  have f1 : Fr nob w1 (w1.alloc (.cells (flat F).toArray 29)) := (Fr.refl _ w1).alloc _
  have f2 := (f01.trans f1).trans f
  exact (ahead_any wx _ la fc lc F L hF ((viewI_new w1 F).fr0 f) (vL.fr0 f2) hnil h1 h2).mono fun e w' ⟨g, c, he, ho, hg, h4⟩ => ⟨g, c, he, ho, by have := f2.size; omega, f2.trans h4⟩
set_option maxRecDepth 100000 in
set_option maxHeartbeats 4000000 in
theorem hload_any (w : World) (h : Hlf) : Calls Tryz.prog 125 #[h.val] w fun e w' => ∃ g c, e = .returned (.slice (some ⟨g, 0, none⟩) h.ld.length c) ∧ Own w' 29 4 (some ⟨g, 0, none⟩) h.ld.length c (flat h.ld) ∧ w.heap.size ≤ g ∧ Fr nob w w' := by
  obtain ⟨p, m, v⟩ := h
  have f0 : Fr nob w (w.alloc (.cells #[.int .u32 p, .int .u32 m, .int .u32 v] 174)) := (Fr.refl _ w).alloc _
  have F0 := hide f0
  by_cases hm : m = 4294967295
  · have hld : Hlf.ld ⟨p, m, v⟩ = [ld p] := by unfold Hlf.ld; rw [if_pos hm]
    rw [hld]
    have hb : (m == 4294967295) = true := by rw [hm]; rfl
    clear f0 hld hm
    show Calls Tryz.prog 125 #[.agg #[.int .u32 p, .int .u32 m, .int .u32 v]] w _
    go_enter Tryz.func125, Tryz.ntmps125
    go_wp2_with fail
    refine (load_any _ p).mono ?_
    rintro e w1 ⟨rfl, f1⟩
    have F1 := hide (F0.out.trans f1)
    have HA := hide (ahead_any (w1.alloc (.cells (flat [ld p]).toArray 29)) (some ⟨w1.heap.size, 0, none⟩) none 1 0 [ld p] [] (by simp) (viewI_new w1 _) (.inl rfl) (fun _ => ⟨rfl, rfl⟩) (by simp) (by simp))
    have hs := F1.out.size
    clear f1
    go_wp2_with fail
    refine HA.out.mono ?_
    rintro e w2 ⟨g, c, rfl, o2, hg, f2⟩
    have F2 := hide ((F1.out.alloc _).trans f2)
    have O2 := hide o2
    rw [World.size_alloc] at hg
    clear o2 f2 HA
    go_wp2
    go_ret
    exact ⟨g, c, rfl, O2.out, by omega, F2.out⟩
  · have hld : Hlf.ld ⟨p, m, v⟩ = [ld p, an m] := by unfold Hlf.ld; rw [if_neg hm]
    rw [hld]
    have hb : (m == 4294967295) = false := by rw [beq_eq_false_iff_ne]; exact hm
    have c0 : (w.alloc (.cells #[.int .u32 p, .int .u32 m, .int .u32 v] 174)).cell? ⟨w.heap.size, 0, none⟩ = some (.int .u32 p) := cell_blk (heap_alloc_new w _) rfl
    have c1 : (w.alloc (.cells #[.int .u32 p, .int .u32 m, .int .u32 v] 174)).cell? ⟨w.heap.size, 1, none⟩ = some (.int .u32 m) := cell_blk (heap_alloc_new w _) rfl
    have HB : Hid ((w.alloc (.cells #[.int .u32 p, .int .u32 m, .int .u32 v] 174)).heap[w.heap.size]? = some (.cells #[.int .u32 p, .int .u32 m, .int .u32 v] 174 (0, 0))) := heap_alloc_new w _
    clear f0 hld hm
    show Calls Tryz.prog 125 #[.agg #[.int .u32 p, .int .u32 m, .int .u32 v]] w _
    go_enter Tryz.func125, Tryz.ntmps125
    go_upto_region 3 with fail
    obtain ⟨w0, hw0⟩ : ∃ w0, w0 = w.alloc (.cells #[.int .u32 p, .int .u32 m, .int .u32 v] 174) := ⟨_, rfl⟩
    rw [← hw0] at F0 c0 c1 HB ⊢
    have hs0 : w.heap.size < w0.heap.size := by rw [hw0, World.size_alloc]; omega
    clear hw0
    go_region_held3 (fun w' => w'.cell? ⟨w.heap.size, 0, none⟩ = some (.int .u32 p) ∧ w'.cell? ⟨w.heap.size, 1, none⟩ = some (.int .u32 m)) (first | exact ⟨c0, c1⟩ | exact ⟨d0, d1⟩ | exact ⟨frC ((Fr.refl nob w1).alloc _) d0, frC ((Fr.refl nob w1).alloc _) d1⟩ | exact ⟨frC f2 c0, frC f2 c1⟩)
      (first
        | (go_at_call 68; refine (load_fr (w0 := w0) (by exact (Fr.refl nob w0).like rfl rfl rfl rfl) p).mono ?_; rintro e w1 ⟨rfl, f1⟩; have d0 : w1.cell? ⟨w.heap.size, 0, none⟩ = some (.int .u32 p) := cell_blk (f1.heap HB.out (fun h => h)) rfl; have d1 : w1.cell? ⟨w.heap.size, 1, none⟩ = some (.int .u32 m) := cell_blk (f1.heap HB.out (fun h => h)) rfl; have HF1 := hide f1; clear f1)
        | (go_at_call 64; refine (ahead_new (w0 := w0) w1 [ld p, an m] HF1.out (by exact (Fr.refl nob _).like rfl rfl rfl rfl) (by simp) none 0 [] (.inl rfl) (fun _ => ⟨rfl, rfl⟩) 2 (by simp) (by simp)).mono ?_; rintro e w2 ⟨g, c, rfl, o2, hg, f2⟩))
    have F2 := hide (F0.out.trans f2)
    have O2 := hide o2
    clear o2 f2
    go_wp2
    go_ret
    exact ⟨g, c, rfl, O2.out, by omega, F2.out⟩

set_option maxRecDepth 100000 in
set_option maxHeartbeats 4000000 in
theorem halves_any (w : World) (t : Tst) (hr : t.rng) (hm : 0 ≤ t.arg ∧ t.arg ≤ 5) : Calls Tryz.prog 124 #[.agg #[.int .i64 t.arg, .int .i64 t.how, .int .u64 t.value, .int .u64 t.mask]] w fun e w' => e = .returned (.tuple #[t.up.val, t.lo.val]) ∧ Fr nob w w' := by
  obtain ⟨arg, how, value, mask⟩ := t
  obtain ⟨_, _, hv, hk⟩ := hr
  simp only at hv hk hm
  obtain ⟨K, hK⟩ : ∃ K, K = Tst.msk ⟨arg, how, value, mask⟩ := ⟨_, rfl⟩
  have hKu : 0 ≤ K ∧ K < 18446744073709551616 := by
    rw [hK]; unfold Tst.msk; simp only
    split
    · exact ⟨hk.1, hk.2⟩
    · exact ⟨by decide, by decide⟩
  have e1 : arg % 4294967296 = arg := by omega
  have e2 : 8 * arg % 4294967296 = 8 * arg := by omega
  have e3 : (16 + 8 * arg) % 4294967296 = 16 + 8 * arg := by omega
  have e4 : (16 + 8 * arg + 4) % 4294967296 = 16 + 8 * arg + 4 := by omega
  have e5 : K / 4294967296 % 4294967296 = K / 4294967296 := by omega
  have e6 : value / 4294967296 % 4294967296 = value / 4294967296 := by have := hv.1; have := hv.2; omega
  have hup : Tst.up ⟨arg, how, value, mask⟩ = ⟨16 + 8 * arg + 4, K / 4294967296, value / 4294967296⟩ := by rw [hK]; rfl
  have hlo : Tst.lo ⟨arg, how, value, mask⟩ = ⟨16 + 8 * arg, K % 4294967296, value % 4294967296⟩ := by rw [hK]; rfl
  rw [hup, hlo]
  clear hup hlo
  by_cases h6 : how = 6
  · have hb : (how == 6) = true := by rw [h6]; rfl
    have hKm : K = mask := by rw [hK]; unfold Tst.msk; rw [if_pos h6]
    subst hKm
    clear hK h6
    go_enter Tryz.func124, Tryz.ntmps124
    go_upto_region 7 with fail
    go_region
    all_goals (
      go_wp2
      exact bodyPost_ret (v := .tuple #[Hlf.val ⟨16 + 8 * arg + 4, K / 4294967296, value / 4294967296⟩, Hlf.val ⟨16 + 8 * arg, K % 4294967296, value % 4294967296⟩]) (by simp [results, Tryz.results124, go_sem, Hlf.val]) rfl ⟨rfl, by first | exact ((((Fr.refl _ w).alloc _).alloc _).alloc _).like rfl rfl rfl rfl⟩)
  · have hb : (how == 6) = false := by rw [beq_eq_false_iff_ne]; exact h6
    have hKm : K = 18446744073709551615 := by rw [hK]; unfold Tst.msk; rw [if_neg h6]
    subst hKm
    clear hK h6 e5
    go_enter Tryz.func124, Tryz.ntmps124
    go_upto_region 7 with fail
    go_region
    all_goals (
      go_wp2
      exact bodyPost_ret (v := .tuple #[Hlf.val ⟨16 + 8 * arg + 4, 18446744073709551615 / 4294967296, value / 4294967296⟩, Hlf.val ⟨16 + 8 * arg, 18446744073709551615 % 4294967296, value % 4294967296⟩]) (by simp [results, Tryz.results124, go_sem, Hlf.val]) rfl ⟨rfl, by first | exact ((((Fr.refl _ w).alloc _).alloc _).alloc _).like rfl rfl rfl rfl⟩)
end Go.Proofs.YtjgcfffepkmojabGreat

namespace Go.Proofs.YtjgcfffepkmojabGreat
open Go.RowKit
set_option linter.unusedVariables false

theorem own_v {w : World} {e : TypeId} {size : Nat} {ao : Option Addr} {n cap : Nat} {xs : List Value} (h : Own w e size ao n cap xs) : View w ao xs := own_view h (by rw [List.take_of_length_le (Nat.le_refl _)])
/-- A slice that is not nil, ahead of a list. -/
theorem ahead_own {w0 wx : World} (f : Fr nob w0 wx) (g c : Nat) (F : List Ins) (nF : Nat) (hnF : nF = F.length) (oF : Own wx 29 4 (some ⟨g, 0, none⟩) nF c (flat F)) (hF : F ≠ []) (la : Option Addr) (lc : Nat) (L : List Ins) (nL : Nat) (hnL : nL = L.length) (vL : View wx la (flat L)) (hL : L ≠ []) (h1 : F.length ≤ 10000) (h2 : L.length ≤ 10000) (n : Nat) (hn : n = (F ++ L).length) (R : List Ins) (hR : R = F ++ L) :
    Calls Tryz.prog 64 #[.slice la nL lc, .slice (some ⟨g, 0, none⟩) nF c] wx fun e w' => ∃ g c, e = .returned (.slice (some ⟨g, 0, none⟩) n c) ∧ Own w' 29 4 (some ⟨g, 0, none⟩) n c (flat R) ∧ w0.heap.size ≤ g ∧ Fr nob w0 w' := by
  subst hnF hnL hn hR
  rw [List.length_append]
  exact (ahead_any wx _ la c lc F L hF (own_v oF) vL (fun e => absurd e hL) h1 h2).mono fun e w' ⟨g, c, he, ho, hg, h4⟩ => ⟨g, c, he, ho, by have := f.size; omega, f.trans h4⟩
theorem hload_fr {w0 wx : World} (f : Fr nob w0 wx) (h : Hlf) : Calls Tryz.prog 125 #[.agg #[.int .u32 h.p, .int .u32 h.m, .int .u32 h.v]] wx fun e w' => ∃ g c, e = .returned (.slice (some ⟨g, 0, none⟩) h.ld.length c) ∧ Own w' 29 4 (some ⟨g, 0, none⟩) h.ld.length c (flat h.ld) ∧ w0.heap.size ≤ g ∧ Fr nob w0 w' :=
  (hload_any wx h).mono fun e w' ⟨g, c, he, ho, hg, h4⟩ => ⟨g, c, he, ho, by have := f.size; omega, f.trans h4⟩

set_option maxRecDepth 100000 in
set_option maxHeartbeats 8000000 in
theorem compare_any (w : World) (t : Tst) (hr : t.rng) (hm : 0 ≤ t.arg ∧ t.arg ≤ 5) (c : Int) (y n : Nat) (hy : y ≤ 200) (hn : n ≤ 200) :
    Calls Tryz.prog 123 #[.agg #[.int .i64 t.arg, .int .i64 t.how, .int .u64 t.value, .int .u64 t.mask], .int .u16 c, .int .i64 (y : Int), .int .i64 (n : Int)] w fun e w' => ∃ g cc, e = .returned (.slice (some ⟨g, 0, none⟩) (cmp4 t c y n).length cc) ∧ Own w' 29 4 (some ⟨g, 0, none⟩) (cmp4 t c y n).length cc (flat (cmp4 t c y n)) ∧ w.heap.size ≤ g ∧ Fr nob w w' := by
  have HH := hide (fun w0 wx (f : Fr nob w0 wx) => (halves_any wx t hr hm).mono fun e w' h => (⟨h.1, f.trans h.2⟩ : e = .returned (.tuple #[.agg #[.int .u32 t.up.p, .int .u32 t.up.m, .int .u32 t.up.v], .agg #[.int .u32 t.lo.p, .int .u32 t.lo.m, .int .u32 t.lo.v]]) ∧ Fr nob w0 w'))
  obtain ⟨U, hU⟩ : ∃ U, U = t.up := ⟨_, rfl⟩
  obtain ⟨L, hL⟩ : ∃ L, L = t.lo := ⟨_, rfl⟩
  have l2 := L.ld_len
  have u2 := U.ld_len
  obtain ⟨B, hB⟩ : ∃ B, B = L.ld.length + 1 := ⟨_, rfl⟩
  obtain ⟨N1, hN1⟩ : ∃ N1, N1 = B + 1 := ⟨_, rfl⟩
  obtain ⟨N2, hN2⟩ : ∃ N2, N2 = B + 1 + y := ⟨_, rfl⟩
  obtain ⟨N3, hN3⟩ : ∃ N3, N3 = B + n := ⟨_, rfl⟩
  have w1 : wrap64 ((B : Int) + 1) = (N1 : Int) := by unfold wrap64; omega
  have w2 : wrap64 ((N1 : Int) + (y : Int)) = (N2 : Int) := by unfold wrap64; omega
  have w3 : wrap64 ((B : Int) + (n : Int)) = (N3 : Int) := by unfold wrap64; omega
  have e1 : cmp1 t c y n = L.ld ++ [br c L.v y n] := by rw [hL]; rfl
  have e1l : (cmp1 t c y n).length = B := by rw [cmp1_len, hB, hL]
  have e2 : cmp2 t c y n = [br 21 U.v 0 N3] ++ cmp1 t c y n := by unfold cmp2; rw [e1l, hU, hN3]; rfl
  have e3 : c ≠ 21 → cmp3 t c y n = [br 37 U.v N2 0] ++ cmp2 t c y n := fun h => by unfold cmp3; rw [if_neg h, e1l, hU, hN2]; rfl
  have e3' : c = 21 → cmp3 t c y n = cmp2 t c y n := fun h => by unfold cmp3; rw [if_pos h]
  have e4 : cmp4 t c y n = U.ld ++ cmp3 t c y n := by unfold cmp4; rw [hU]
  obtain ⟨C1, hC1⟩ : ∃ C1, C1 = cmp1 t c y n := ⟨_, rfl⟩
  obtain ⟨C2, hC2⟩ : ∃ C2, C2 = cmp2 t c y n := ⟨_, rfl⟩
  obtain ⟨C3, hC3⟩ : ∃ C3, C3 = cmp3 t c y n := ⟨_, rfl⟩
  obtain ⟨C4, hC4⟩ : ∃ C4, C4 = cmp4 t c y n := ⟨_, rfl⟩
  rw [← hC1] at e1 e1l e2
  rw [← hC2] at e2 e3 e3'
  rw [← hC3] at e3 e3' e4
  rw [← hC4] at e4 ⊢
  rw [← hU, ← hL] at HH
  have E1 := hide e1
  have E1L := hide e1l
  have E2 := hide e2
  have E3 := hide e3
  have E3' := hide e3'
  have E4 := hide e4
  have HB := hide hB
  have H3 := hide hN3
  have H2 := hide hN2
  have HU := hide u2
  have HL := hide l2
  obtain ⟨up, um, uv⟩ := U
  obtain ⟨lp, lm, lv⟩ := L
  dsimp only at HH
  clear hU hL hC1 hC2 hC3 hC4 e1 e1l e2 e3 e3' e4 hN1 hN2 hN3 hB l2 u2 hr hm
  go_enter Tryz.func123, Tryz.ntmps123
  go_wp2_with fail
  refine (HH.out w _ ((Fr.refl _ w).alloc _)).mono ?_
  rintro e w1 ⟨rfl, f1⟩
  have F1 := hide f1
  clear f1 HH
  go_wp2_with fail
  obtain ⟨w2, hw2⟩ : ∃ w2, w2 = ((w1.alloc (.cells #[.int .u32 up, .int .u32 um, .int .u32 uv] 174)).alloc (.cells #[.int .u32 lp, .int .u32 lm, .int .u32 lv] 174)) := ⟨_, rfl⟩
  have F2 : Hid (Fr nob w w2) := by rw [hw2]; exact (F1.out.alloc _).alloc _
  have KU : Hid (w2.heap[w1.heap.size]? = some (.cells #[.int .u32 up, .int .u32 um, .int .u32 uv] 174 (0, 0))) := by
    rw [hw2]
    exact (((Fr.refl nob _).alloc _).heap (heap_alloc_new w1 _) (fun h => h))
  have KL : Hid (w2.heap[w1.heap.size + 1]? = some (.cells #[.int .u32 lp, .int .u32 lm, .int .u32 lv] 174 (0, 0))) := by
    rw [hw2]
    have h := heap_alloc_new (w1.alloc (.cells #[.int .u32 up, .int .u32 um, .int .u32 uv] 174)) (.cells #[.int .u32 lp, .int .u32 lm, .int .u32 lv] 174)
    rw [World.size_alloc] at h
    exact h
  rw [← hw2]
  clear hw2 F1
  have h3 : N3 ≤ 255 := by have := H3.out; have := HB.out; have := HL.out; omega
  have h2 : N2 ≤ 255 := by have := H2.out; have := HB.out; have := HL.out; omega
  -- the lower words' branch
  refine (branch_fr (Fr.refl nob w2) c lv y n (by omega) (by omega)).mono ?_
  rintro e w3 ⟨rfl, f3⟩
  have HA := hide (ahead_new (w0 := w2) w3 [br c lv y n] f3 (Fr.refl _ _) (by simp) none 0 [] (.inl rfl) (fun _ => ⟨rfl, rfl⟩) 1 (by simp) (by simp))
  clear f3
  go_wp2_with fail
  refine HA.out.mono ?_
  rintro e w4 ⟨g4, c4, rfl, o4, hg4, f4⟩
  have O4 : Hid (Own w4 29 4 (some ⟨g4, 0, none⟩) 1 c4 (flat [br c lv y n])) := o4
  have ku := f4.heap KU.out (fun h => h)
  have kl := f4.heap KL.out (fun h => h)
  have x0 : w4.cell? ⟨w1.heap.size + 1, 0, none⟩ = some (.int .u32 lp) := cell_blk kl rfl
  have x1 : w4.cell? ⟨w1.heap.size + 1, 1, none⟩ = some (.int .u32 lm) := cell_blk kl rfl
  have x2 : w4.cell? ⟨w1.heap.size + 1, 2, none⟩ = some (.int .u32 lv) := cell_blk kl rfl
  have KU4 := hide ku
  have F4 := hide (F2.out.trans f4)
  clear o4 f4 HA ku kl KU KL F2 hg4
  -- the lower word is loaded
  go_wp2_with fail
  refine (hload_fr (Fr.refl nob w4) ⟨lp, lm, lv⟩).mono ?_
  rintro e w5 ⟨g5, c5, rfl, o5, hg5, f5⟩
  have HA := hide (ahead_own (f5 : Fr nob w4 w5) g5 c5 (Hlf.ld ⟨lp, lm, lv⟩) _ rfl o5 (Hlf.ld_ne _) (some ⟨g4, 0, none⟩) c4 [br c lv y n] 1 rfl ((own_v O4.out).fr0 f5) (by simp) (by have := HL.out; omega) (by simp) B (by rw [← E1.out, E1L.out]) C1 E1.out)
  clear f5 o5 hg5 x0 x1 x2
  go_wp2_with fail
  refine HA.out.mono ?_
  rintro e w6 ⟨g6, c6, rfl, o6, hg6, f6⟩
  have O6 := hide o6
  have ku := f6.heap KU4.out (fun h => h)
  have y2 : w6.cell? ⟨w1.heap.size, 2, none⟩ = some (.int .u32 uv) := cell_blk ku rfl
  have KU6 := hide ku
  have F6 := hide (F4.out.trans f6)
  clear o6 f6 HA ku KU4 F4 hg6 O4
  -- are the upper words equal?
  go_wp2_with fail
  refine (branch_fr (Fr.refl nob w6) 21 uv 0 N3 (by omega) h3).mono ?_
  rintro e w7 ⟨rfl, f7⟩
  have hB1 : C1 ≠ [] := by
    intro e
    have h := E1L.out
    rw [e] at h
    have := HB.out
    simp only [List.length_nil] at h
    omega
  have hBl : C1.length ≤ 10000 := by have := E1L.out; have := HB.out; have := HL.out; omega
  have HA := hide (ahead_new (w0 := w6) w7 [br 21 uv 0 N3] f7 (Fr.refl _ _) (by simp) (some ⟨g6, 0, none⟩) c6 C1 (own_v O6.out) (fun e => absurd e hB1) 1 (by simp) hBl)
  rw [E1L.out, ← E2.out, show [br 21 uv 0 N3].length = 1 from rfl] at HA
  clear f7 hB1 hBl
  go_wp2_with fail
  refine HA.out.mono ?_
  rintro e w8 ⟨g8, c8, rfl, o8, hg8, f8⟩
  have l2 : C2.length = 1 + B := by rw [E2.out, List.length_append, E1L.out]; rfl
  have O8 : Hid (Own w8 29 4 (some ⟨g8, 0, none⟩) (1 + B) c8 (flat C2)) := o8
  have ku := f8.heap KU6.out (fun h => h)
  have z0 : w8.cell? ⟨w1.heap.size, 0, none⟩ = some (.int .u32 up) := cell_blk ku rfl
  have z1 : w8.cell? ⟨w1.heap.size, 1, none⟩ = some (.int .u32 um) := cell_blk ku rfl
  have z2 : w8.cell? ⟨w1.heap.size, 2, none⟩ = some (.int .u32 uv) := cell_blk ku rfl
  have KU8 := hide ku
  have F8 := hide (F6.out.trans f8)
  have L2 := hide l2
  clear o8 f8 HA ku KU6 F6 hg8 O6 y2 l2
  by_cases h21 : c = 21
  · have hb : (c != 21) = false := by rw [h21]; rfl
    have E3x := hide (E3'.out h21)
    clear h21 E3 E3'
    go_wp2_with fail
    refine (hload_fr (Fr.refl nob w8) ⟨up, um, uv⟩).mono ?_
    rintro e w9 ⟨g9, c9, rfl, o9, hg9, f9⟩
    have HA := hide (ahead_own (f9 : Fr nob w8 w9) g9 c9 (Hlf.ld ⟨up, um, uv⟩) _ rfl o9 (Hlf.ld_ne _) (some ⟨g8, 0, none⟩) c8 C2 (1 + B) L2.out.symm ((own_v O8.out).fr0 f9) (by intro e; have := L2.out; rw [e] at this; simp only [List.length_nil] at this; omega) (by have := HU.out; omega) (by have := L2.out; have := HB.out; have := HL.out; omega) C4.length (by rw [E4.out, E3x.out]) C4 (by rw [E4.out, E3x.out]))
    clear f9 o9 z0 z1 z2
    go_wp2_with fail
    refine HA.out.mono ?_
    rintro e wz ⟨gz, cz, rfl, oz, hgz, fz⟩
    have OZ := hide oz
    have FZ := hide (F8.out.trans fz)
    have hs := F8.out.size
    clear oz fz
    go_wp2
    go_ret
    exact ⟨gz, cz, rfl, OZ.out, by omega, FZ.out⟩
  · have hb : (c != 21) = true := by simpa using h21
    have E3x := hide (E3.out h21)
    clear h21 E3 E3'
    go_wp2_with fail
    refine (branch_fr (Fr.refl nob w8) 37 uv N2 0 h2 (by omega)).mono ?_
    rintro e w9 ⟨rfl, f9⟩
    have HA := hide (ahead_new (w0 := w8) w9 [br 37 uv N2 0] f9 (Fr.refl _ _) (by simp) (some ⟨g8, 0, none⟩) c8 C2 (own_v O8.out) (fun e => absurd (L2.out) (by rw [e]; simp; omega)) 1 (by simp) (by have := L2.out; have := HB.out; have := HL.out; omega))
    rw [L2.out, ← E3x.out, show [br 37 uv N2 0].length = 1 from rfl] at HA
    clear f9 z2
    go_wp2_with fail
    refine HA.out.mono ?_
    rintro e wa ⟨ga, ca, rfl, oa, hga, fa⟩
    have OA : Hid (Own wa 29 4 (some ⟨ga, 0, none⟩) (1 + (1 + B)) ca (flat C3)) := oa
    have ku := fa.heap KU8.out (fun h => h)
    have z0 : wa.cell? ⟨w1.heap.size, 0, none⟩ = some (.int .u32 up) := cell_blk ku rfl
    have z1 : wa.cell? ⟨w1.heap.size, 1, none⟩ = some (.int .u32 um) := cell_blk ku rfl
    have z2 : wa.cell? ⟨w1.heap.size, 2, none⟩ = some (.int .u32 uv) := cell_blk ku rfl
    have FA := hide (F8.out.trans fa)
    have L3 : Hid (C3.length = 1 + (1 + B)) := hide (by rw [E3x.out, List.length_append, L2.out]; rfl)
    clear oa fa ku KU8 F8 O8 HA
    go_wp2_with fail
    refine (hload_fr (Fr.refl nob wa) ⟨up, um, uv⟩).mono ?_
    rintro e w9 ⟨g9, c9, rfl, o9, hg9, f9⟩
    have HA := hide (ahead_own (f9 : Fr nob wa w9) g9 c9 (Hlf.ld ⟨up, um, uv⟩) _ rfl o9 (Hlf.ld_ne _) (some ⟨ga, 0, none⟩) ca C3 (1 + (1 + B)) L3.out.symm ((own_v OA.out).fr0 f9) (by intro e; have := L3.out; rw [e] at this; simp only [List.length_nil] at this; omega) (by have := HU.out; omega) (by have := L3.out; have := HB.out; have := HL.out; omega) C4.length (by rw [E4.out]) C4 E4.out)
    clear f9 o9 z0 z1 z2
    go_wp2_with fail
    refine HA.out.mono ?_
    rintro e wz ⟨gz, cz, rfl, oz, hgz, fz⟩
    have OZ := hide oz
    have FZ := hide (FA.out.trans fz)
    have hs := FA.out.size
    clear oz fz
    go_wp2
    go_ret
    exact ⟨gz, cz, rfl, OZ.out, by omega, FZ.out⟩

set_option maxRecDepth 100000 in
set_option maxHeartbeats 8000000 in
theorem test_any (w : World) (t : Tst) (hr : t.rng) (hm : (0 ≤ t.arg ∧ t.arg ≤ 5) ∧ (0 ≤ t.how ∧ t.how ≤ 6)) (o : Nat) (ho : o ≤ 200) :
    Calls Tryz.prog 114 #[.agg #[.int .i64 t.arg, .int .i64 t.how, .int .u64 t.value, .int .u64 t.mask], .int .i64 (o : Int)] w fun e w' => ∃ g cc, e = .returned (.slice (some ⟨g, 0, none⟩) (coT t o).length cc) ∧ Own w' 29 4 (some ⟨g, 0, none⟩) (coT t o).length cc (flat (coT t o)) ∧ w.heap.size ≤ g ∧ Fr nob w w' := by
  have HC : Hid (∀ c (y n : Nat), y ≤ 200 → n ≤ 200 → coT t o = cmp4 t c y n → ∀ wx, Fr nob w wx → Calls Tryz.prog 123 #[.agg #[.int .i64 t.arg, .int .i64 t.how, .int .u64 t.value, .int .u64 t.mask], .int .u16 c, .int .i64 (y : Int), .int .i64 (n : Int)] wx fun e w' => ∃ g cc, e = .returned (.slice (some ⟨g, 0, none⟩) (coT t o).length cc) ∧ Own w' 29 4 (some ⟨g, 0, none⟩) (coT t o).length cc (flat (coT t o)) ∧ w.heap.size ≤ g ∧ Fr nob w w') := fun c y n hy hn he wx f => by
    rw [he]
    exact (compare_any wx t hr hm.1 c y n hy hn).mono fun e w' ⟨g, c, he, ho, hg, h4⟩ => ⟨g, c, he, ho, by have := f.size; omega, f.trans h4⟩
  have hc : t.how = 0 ∨ t.how = 1 ∨ t.how = 2 ∨ t.how = 3 ∨ t.how = 4 ∨ t.how = 5 ∨ t.how = 6 := by omega
  have HO := hide ho
  clear hm hr ho
  rcases hc with hc | hc | hc | hc | hc | hc | hc
  · have HX := hide (HC.out 21 0 o (by omega) HO.out (by unfold coT; rw [hc]; rfl))
    clear HC HO
    generalize coT t o = R at *
    rw [hc] at HX ⊢
    go_enter Tryz.func114, Tryz.ntmps114
    go_wp2_with fail
    refine (HX.out _ ((Fr.refl _ w).alloc _)).mono ?_
    rintro e w1 ⟨g, c, rfl, o1, hg, f1⟩
    have O1 := hide o1
    have F1 := hide f1
    clear o1 f1
    go_wp2
    go_ret
    exact ⟨g, c, rfl, O1.out, hg, F1.out⟩
  · have HX := hide (HC.out 21 o 0 (by have := HO.out; omega) (by have := HO.out; omega) (by unfold coT; rw [hc]; rfl))
    clear HC HO
    generalize coT t o = R at *
    rw [hc] at HX ⊢
    go_enter Tryz.func114, Tryz.ntmps114
    go_wp2_with fail
    refine (HX.out _ ((Fr.refl _ w).alloc _)).mono ?_
    rintro e w1 ⟨g, c, rfl, o1, hg, f1⟩
    have O1 := hide o1
    have F1 := hide f1
    clear o1 f1
    go_wp2
    go_ret
    exact ⟨g, c, rfl, O1.out, hg, F1.out⟩
  · have HX := hide (HC.out 53 o 0 (by have := HO.out; omega) (by have := HO.out; omega) (by unfold coT; rw [hc]; rfl))
    clear HC HO
    generalize coT t o = R at *
    rw [hc] at HX ⊢
    go_enter Tryz.func114, Tryz.ntmps114
    go_wp2_with fail
    refine (HX.out _ ((Fr.refl _ w).alloc _)).mono ?_
    rintro e w1 ⟨g, c, rfl, o1, hg, f1⟩
    have O1 := hide o1
    have F1 := hide f1
    clear o1 f1
    go_wp2
    go_ret
    exact ⟨g, c, rfl, O1.out, hg, F1.out⟩
  · have HX := hide (HC.out 37 o 0 (by have := HO.out; omega) (by have := HO.out; omega) (by unfold coT; rw [hc]; rfl))
    clear HC HO
    generalize coT t o = R at *
    rw [hc] at HX ⊢
    go_enter Tryz.func114, Tryz.ntmps114
    go_wp2_with fail
    refine (HX.out _ ((Fr.refl _ w).alloc _)).mono ?_
    rintro e w1 ⟨g, c, rfl, o1, hg, f1⟩
    have O1 := hide o1
    have F1 := hide f1
    clear o1 f1
    go_wp2
    go_ret
    exact ⟨g, c, rfl, O1.out, hg, F1.out⟩
  · have HX := hide (HC.out 37 0 o (by have := HO.out; omega) (by have := HO.out; omega) (by unfold coT; rw [hc]; rfl))
    clear HC HO
    generalize coT t o = R at *
    rw [hc] at HX ⊢
    go_enter Tryz.func114, Tryz.ntmps114
    go_wp2_with fail
    refine (HX.out _ ((Fr.refl _ w).alloc _)).mono ?_
    rintro e w1 ⟨g, c, rfl, o1, hg, f1⟩
    have O1 := hide o1
    have F1 := hide f1
    clear o1 f1
    go_wp2
    go_ret
    exact ⟨g, c, rfl, O1.out, hg, F1.out⟩
  · have HX := hide (HC.out 53 0 o (by have := HO.out; omega) (by have := HO.out; omega) (by unfold coT; rw [hc]; rfl))
    clear HC HO
    generalize coT t o = R at *
    rw [hc] at HX ⊢
    go_enter Tryz.func114, Tryz.ntmps114
    go_wp2_with fail
    refine (HX.out _ ((Fr.refl _ w).alloc _)).mono ?_
    rintro e w1 ⟨g, c, rfl, o1, hg, f1⟩
    have O1 := hide o1
    have F1 := hide f1
    clear o1 f1
    go_wp2
    go_ret
    exact ⟨g, c, rfl, O1.out, hg, F1.out⟩
  · have HX := hide (HC.out 21 0 o (by have := HO.out; omega) (by have := HO.out; omega) (by unfold coT; rw [hc]; rfl))
    clear HC HO
    generalize coT t o = R at *
    rw [hc] at HX ⊢
    go_enter Tryz.func114, Tryz.ntmps114
    go_wp2_with fail
    refine (HX.out _ ((Fr.refl _ w).alloc _)).mono ?_
    rintro e w1 ⟨g, c, rfl, o1, hg, f1⟩
    have O1 := hide o1
    have F1 := hide f1
    clear o1 f1
    go_wp2
    go_ret
    exact ⟨g, c, rfl, O1.out, hg, F1.out⟩
end Go.Proofs.YtjgcfffepkmojabGreat

namespace Go.Proofs.YtjgcfffepkmojabGreat
open Go.RowKit Go.Shelf
set_option linter.unusedVariables false
attribute [local go_sem] Oper.semAt_some

/-! ### Backward over a slice -/
/-- From A to B all cells but block bl, and all that lies ahead of n₀ but it, lie as they lay. -/
structure Kc (n₀ bl : Nat) (A B : World) : Prop where
  os : B.os = A.os
  tape : B.tape = A.tape
  output : B.output = A.output
  size : A.heap.size ≤ B.heap.size
  same : ∀ k o, A.heap[k]? = some o → k ≠ bl → (k < n₀ ∨ o.isCells = true) → B.heap[k]? = some o
theorem Kc.refl (n₀ bl : Nat) (A : World) : Kc n₀ bl A A := ⟨rfl, rfl, rfl, Nat.le_refl _, fun _ _ h _ _ => h⟩
theorem Kc.trans {n₀ bl : Nat} {A B C : World} (h : Kc n₀ bl A B) (k : Kc n₀ bl B C) : Kc n₀ bl A C :=
  ⟨k.os.trans h.os, k.tape.trans h.tape, k.output.trans h.output, Nat.le_trans h.size k.size, fun i o h1 h2 h3 => k.same i o (h.same i o h1 h2 h3) h2 h3⟩
theorem Kc.ofFr {n₀ bl : Nat} {A B : World} (f : Fr (fun k => k = bl) A B) : Kc n₀ bl A B := ⟨f.os, f.tape, f.output, f.size, fun k o h1 h2 _ => f.heap h1 h2⟩
theorem Kc.putObj {n₀ bl : Nat} (W : World) (l : Nat) (o o' : Obj) (hl : n₀ ≤ l) (h : W.heap[l]? = some o) (ho : o.isCells = false) : Kc n₀ bl W (W.putObj l o') := by
  have g := grownBy_putObj' W l o'
  refine ⟨g.os, g.tape, g.output, g.size, fun k x h1 h2 h3 => ?_⟩
  refine (g.block k (Array.getElem?_eq_some_iff.1 h1).1 (fun e => ?_)).trans h1
  simp only [Option.some.injEq] at e
  subst e
  rw [h] at h1
  cases h1
  rcases h3 with h3 | h3
  · omega
  · rw [ho] at h3; cases h3
theorem Kc.grown {n₀ bl B : Nat} {w W W' : World} {row : Option Nat} (h : Kc n₀ bl w W) (g : W.grownBy W' row) (hn : n₀ ≤ B) (hr : ∀ r, row = some r → B ≤ r ∧ ∃ o : Obj, W.heap[r]? = some o ∧ o.isCells = false) : Kc n₀ bl w W' :=
  ⟨g.os.trans h.os, g.tape.trans h.tape, g.output.trans h.output, Nat.le_trans h.size g.size, fun k x h1 h2 h3 => by
    have h4 := h.same k x h1 h2 h3
    refine (g.block k (Array.getElem?_eq_some_iff.1 h4).1 (fun e => ?_)).trans h4
    obtain ⟨a, o, b, c⟩ := hr k e.symm
    rw [h4] at b
    cases b
    rcases h3 with h3 | h3
    · omega
    · rw [c] at h3; cases h3⟩
theorem cell_cells {w : World} {a : Addr} {v : Value} (h : w.cell? a = some v) : ∃ o : Obj, w.heap[a.block]? = some o ∧ o.isCells = true := by
  unfold World.cell? at h
  split at h
  · rename_i c t f hc
    exact ⟨_, hc, rfl⟩
  · cases h
theorem Kc.cell {n₀ bl : Nat} {A B : World} (h : Kc n₀ bl A B) {a : Addr} {v : Value} (hv : A.cell? a = some v) (hb : a.block ≠ bl) : B.cell? a = some v := by
  obtain ⟨o, h1, h2⟩ := cell_cells hv
  rw [World.cell?_of_block ((h.same _ _ h1 hb (.inr h2)).trans h1.symm)]
  exact hv
theorem Kc.view {n₀ bl : Nat} {A B : World} (h : Kc n₀ bl A B) {ao : Option Addr} {xs : List Value} (hv : View A ao xs) (hb : ∀ b off, ao = some ⟨b, off, none⟩ → b ≠ bl) : View B ao xs := by
  rcases hv with hv | ⟨b, off, h1, h2⟩
  · exact .inl hv
  · exact .inr ⟨b, off, h1, fun j v hj => h.cell (h2 j v hj) (hb b off h1)⟩
theorem Kc.own {n₀ bl : Nat} {A B : World} (h : Kc n₀ bl A B) {e : TypeId} {size : Nat} {v : Value} {n : Nat} {xs : List Value} (ho : A.ownsRow 0 e size v n xs) (hb : ¬ bk v bl) : B.ownsRow 0 e size v n xs := by
  refine ⟨ho.1, ?_⟩
  rcases ho.2 with hn | ⟨g, cap, cur, rfl, h0, hgg, rest⟩
  · exact .inl hn
  · exact .inr ⟨g, cap, cur, rfl, h0, h.same _ _ hgg (fun e => hb (by simp [bk, Value.ownBlock, e])) (.inr rfl), rest⟩
theorem kept_cells {B₀ : Nat} {A B : World} {row : Option Nat} (g : A.grownBy B row) (hr : ∀ r, row = some r → B₀ ≤ r ∧ ∃ o : Obj, A.heap[r]? = some o ∧ o.isCells = false) {k : Nat} {o : Obj} (h : A.heap[k]? = some o) (ho : o.isCells = true) : B.heap[k]? = some o := by
  refine (g.block k (Array.getElem?_eq_some_iff.1 h).1 (fun e => ?_)).trans h
  obtain ⟨_, o', b, c⟩ := hr k e.symm
  rw [h] at b
  cases b
  rw [ho] at c
  cases c
theorem keepsFrom_fr {S : Nat → Prop} {B : Nat} {A C : World} (f : Fr S A C) (hS : ∀ k, S k → ∃ o : Obj, A.heap[k]? = some o ∧ o.isCells = true) : KeepsFrom B A C :=
  ⟨f.size, fun k o _ hk ho => f.heap hk (fun h => by
    obtain ⟨o', h1, h2⟩ := hS k h
    rw [hk] at h1
    cases h1
    rw [ho] at h2
    cases h2)⟩
/-- The list that is being made: its box, its cells. -/
def LB (n₀ bl : Nat) (W : World) (l : List Ins) : Prop := ∃ g c, W.heap[bl]? = some (.cells #[.slice (some ⟨g, 0, none⟩) l.length c] 30 (0, 0)) ∧ Own W 29 4 (some ⟨g, 0, none⟩) l.length c (flat l) ∧ n₀ ≤ g
theorem LB.grown {n₀ bl B₀ : Nat} {A B : World} {row : Option Nat} {l : List Ins} (h : LB n₀ bl A l) (g : A.grownBy B row) (hr : ∀ r, row = some r → B₀ ≤ r ∧ ∃ o : Obj, A.heap[r]? = some o ∧ o.isCells = false) : LB n₀ bl B l := by
  obtain ⟨x, c, h1, h2, h3⟩ := h
  refine ⟨x, c, kept_cells g hr h1 rfl, ?_, h3⟩
  have hk : Kc 0 bl A B := (Kc.refl 0 bl A).grown g (Nat.zero_le _) (B := B₀) hr
  exact hk.own h2 (own_ne h2 h1 (by decide))
theorem LB.fr {n₀ bl : Nat} {A B : World} {l : List Ins} (h : LB n₀ bl A l) (f : Fr nob A B) : LB n₀ bl B l := by
  obtain ⟨x, c, h1, h2, h3⟩ := h
  exact ⟨x, c, f.heap h1 (fun h => h), own_fr h2 f (fun _ _ h => h), h3⟩
/-- The indices of a list from the last on, k of them. -/
def dn (n k : Nat) : List (Fin n) := (List.finRange n).reverse.take k
theorem dn_len (n k : Nat) (hk : k ≤ n) : (dn n k).length = k := by simp [dn]; omega
theorem dn_succ (n k : Nat) (hk : k < n) : dn n (k + 1) = dn n k ++ [⟨n - 1 - k, by omega⟩] := by
  unfold dn
  rw [List.take_succ_eq_append_getElem (by simpa using hk)]
  congr 1
  simp
theorem dn_all {α : Type} (l : List α) : (dn l.length l.length).reverse.map (fun i => l[i]) = l := by
  unfold dn
  rw [List.take_of_length_le (by simp), List.reverse_reverse]
  apply List.ext_getElem
  · simp
  · intro i h1 h2
    simp

set_option maxRecDepth 100000 in
set_option maxHeartbeats 4000000 in
theorem backT1_in (n : Nat) (hn : 1 ≤ n) (l Bs n₀ bl : Nat) (ao : Option Addr) (cap : Nat) (ts : List Tst) (hl : ts.length ≤ 1000000) (hBb : Bs ≠ bl) (hbb : ∀ b off, ao = some ⟨b, off, none⟩ → ts ≠ [] → b ≠ bl) (J Jx : List (Fin ts.length) → World → Prop)
    (hY : ∀ pre x W, J pre W → pre.length < ts.length → YieldAt Fence.wide (n - 1) Tryz.prog l #[.int .i64 (x.val : Int), .agg #[.int .i64 (ts[x]).arg, .int .i64 (ts[x]).how, .int .u64 (ts[x]).value, .int .u64 (ts[x]).mask]] W fun e W' =>
      (e = .returned (.bool true) ∧ J (pre ++ [x]) W' ∧ Kc n₀ bl W W') ∨ (e = .returned (.bool false) ∧ Jx (pre ++ [x]) W'))
    (W : World) (hBs : W.cell? ⟨Bs, 0, none⟩ = some (.slice ao ts.length cap)) (hv : View W ao (tcs ts)) (h0 : J [] W) :
    CallsIn Fence.wide n Tryz.prog 122 #[.func (.yield l) #[] #[], .pointer (some ⟨Bs, 0, none⟩)] W fun e W' => (∃ v, e = .returned v) ∧ ((∃ ys, ys = dn ts.length ts.length ∧ J ys W') ∨ (∃ pre, True ∧ Jx pre W')) := by
  have w0 : wrap64 ((ts.length : Int) - 1) = (ts.length : Int) - 1 := by unfold wrap64; omega
  refine callsIn_of_wp Tryz.func122 rfl trivial ?_ rfl
  simp only [Tryz.ntmps122, List.size_toArray, List.length_cons, List.length_nil, Nat.reduceAdd, Nat.reduceSub, Array.replicate_succ, Array.replicate_zero, List.push_toArray, List.append_toArray, List.nil_append, List.cons_append]
  gi_wp2
  gi_loopw [3] (fun i wr => ∃ k : Nat, k ≤ ts.length ∧ i = .int .i64 ((ts.length : Int) - 1 - (k : Int)) ∧ J (dn ts.length k) wr ∧ Kc n₀ bl W wr)
    (fun i _ => (intOf i + 1).toNat)
  case atStart => exact ⟨0, Nat.zero_le _, by simp, h0, Kc.refl _ _ _⟩
  case round =>
    obtain ⟨k, hk, rfl, hJs, hnx⟩ := hrel
    have hBx := hnx.cell hBs hBb
    by_cases hlt : k < ts.length
    · obtain ⟨m, hm⟩ : ∃ m : Nat, m = ts.length - 1 - k := ⟨_, rfl⟩
      have hml : m < ts.length := by omega
      have hmi : (ts.length : Int) - 1 - (k : Int) = (m : Int) := by omega
      rw [hmi]
      obtain ⟨b, off, rfl, hcs⟩ := view_at (f := Tst.cs) (n := 4) (fun _ => rfl) (by decide) (hnx.view hv (fun b off e => hbb b off e (fun h => by rw [h] at hlt; exact absurd hlt (Nat.not_lt_zero _)))) hml
      have c0 : wr.cell? ⟨b, off + m * 4, none⟩ = some (.int .i64 (ts[m]).arg) := hcs 0 _ (by decide) rfl
      have c1 : wr.cell? ⟨b, off + m * 4 + 1, none⟩ = some (.int .i64 (ts[m]).how) := hcs 1 _ (by decide) rfl
      have c2 : wr.cell? ⟨b, off + m * 4 + 2, none⟩ = some (.int .u64 (ts[m]).value) := hcs 2 _ (by decide) rfl
      have c3 : wr.cell? ⟨b, off + m * 4 + 3, none⟩ = some (.int .u64 (ts[m]).mask) := hcs 3 _ (by decide) rfl
      obtain ⟨fn, tmps, assign, body, hy, hR⟩ := hY _ ⟨m, hml⟩ wr hJs (by rw [dn_len _ _ hk]; exact hlt)
      simp only [Fin.getElem_fin] at hy
      have hd : wrap64 ((m : Int) - 1) = (m : Int) - 1 := by unfold wrap64; omega
      have hm0 : (m : Int) ≥ 0 := by omega
      have hmlt : (m : Int) < (ts.length : Int) := by omega
      have hdn : dn ts.length (k + 1) = dn ts.length k ++ [⟨m, hml⟩] := by subst hm; exact dn_succ _ _ hlt
      have HDN := hide hdn
      have HM := hide hm
      clear hm hcs hdn hmi
      gi_wp2
      refine hR.mono ?_
      rintro e W3 (⟨rfl, hJ3, hk3⟩ | ⟨rfl, hJx3⟩)
      · gi_wp2
        go_roundw
        case rel => exact ⟨k + 1, by omega, by have := HM.out; congr 1; omega, by rw [HDN.out]; exact hJ3, hnx.trans hk3⟩
        case measure => simp [intOf]
      · gi_wp2
        refine bodyPost_ret (results_none rfl _ _ _) rfl ?_
        exact ⟨⟨_, rfl⟩, .inr ⟨_, trivial, hJx3⟩⟩
    · obtain rfl : k = ts.length := by omega
      have hmi : (ts.length : Int) - 1 - (ts.length : Int) = -1 := by omega
      rw [hmi]
      gi_wp2
      go_end0
      exact ⟨⟨_, rfl⟩, .inl ⟨_, rfl, hJs⟩⟩
set_option maxHeartbeats 1000000 in
theorem backT_new (w : World) (a : Option Addr) (len cap : Nat) :
    Calls Tryz.prog 113 #[.slice a len cap] w fun e w' => e = .returned (.func (.func 122) #[] #[.pointer (some ⟨w.heap.size, 0, none⟩)]) ∧ w' = w.alloc (.cells #[.slice a len cap] 33) := by
  go_enter Tryz.func113, Tryz.ntmps113
  go_wp2
  go_ret
  exact ⟨rfl, rfl⟩
theorem backT_stops (n : Nat) (hn : 1 ≤ n) (Bs n₀ bl : Nat) (ao : Option Addr) (cap : Nat) (ts : List Tst) (hl : ts.length ≤ 1000000) (w : World) (hBb : Bs ≠ bl) (hbb : ∀ b off, ao = some ⟨b, off, none⟩ → ts ≠ [] → b ≠ bl)
    (hBs : w.cell? ⟨Bs, 0, none⟩ = some (.slice ao ts.length cap)) (hv : View w ao (tcs ts)) :
    SeqStopsK Fence.wide n Tryz.prog 122 #[.pointer (some ⟨Bs, 0, none⟩)] (fun x : Fin ts.length => #[Value.int .i64 (x.val : Int), .agg #[.int .i64 (ts[x]).arg, .int .i64 (ts[x]).how, .int .u64 (ts[x]).value, .int .u64 (ts[x]).mask]]) (Kc n₀ bl) (fun ys => ys = dn ts.length ts.length) (fun _ => True) ts.length w := fun l J Jx W hW _ _ hY h0 => by
  have f : Fr nob w W := Fr.ofBelow hW _
  exact backT1_in n hn l Bs n₀ bl ao cap ts hl hBb hbb J Jx hY W (frC f hBs) (hv.fr0 f) h0

set_option maxRecDepth 100000 in
set_option maxHeartbeats 4000000 in
theorem backR1_in (n : Nat) (hn : 1 ≤ n) (l Bs n₀ bl : Nat) (ao : Option Addr) (cap : Nat) (ts : List Rul) (hl : ts.length ≤ 1000000) (hBb : Bs ≠ bl) (hbb : ∀ b off, ao = some ⟨b, off, none⟩ → ts ≠ [] → b ≠ bl) (J Jx : List (Fin ts.length) → World → Prop)
    (hY : ∀ pre x W, J pre W → pre.length < ts.length → YieldAt Fence.wide (n - 1) Tryz.prog l #[.int .i64 (x.val : Int), .agg #[.int .u32 (ts[x]).number, .slice (ts[x]).ta (ts[x]).ts.length (ts[x]).cap, .int .u32 (ts[x]).verdict]] W fun e W' =>
      (e = .returned (.bool true) ∧ J (pre ++ [x]) W' ∧ Kc n₀ bl W W') ∨ (e = .returned (.bool false) ∧ Jx (pre ++ [x]) W'))
    (W : World) (hBs : W.cell? ⟨Bs, 0, none⟩ = some (.slice ao ts.length cap)) (hv : View W ao (rcs ts)) (h0 : J [] W) :
    CallsIn Fence.wide n Tryz.prog 112 #[.func (.yield l) #[] #[], .pointer (some ⟨Bs, 0, none⟩)] W fun e W' => (∃ v, e = .returned v) ∧ ((∃ ys, ys = dn ts.length ts.length ∧ J ys W') ∨ (∃ pre, True ∧ Jx pre W')) := by
  have w0 : wrap64 ((ts.length : Int) - 1) = (ts.length : Int) - 1 := by unfold wrap64; omega
  refine callsIn_of_wp Tryz.func112 rfl trivial ?_ rfl
  simp only [Tryz.ntmps112, List.size_toArray, List.length_cons, List.length_nil, Nat.reduceAdd, Nat.reduceSub, Array.replicate_succ, Array.replicate_zero, List.push_toArray, List.append_toArray, List.nil_append, List.cons_append]
  gi_wp2
  gi_loopw [3] (fun i wr => ∃ k : Nat, k ≤ ts.length ∧ i = .int .i64 ((ts.length : Int) - 1 - (k : Int)) ∧ J (dn ts.length k) wr ∧ Kc n₀ bl W wr)
    (fun i _ => (intOf i + 1).toNat)
  case atStart => exact ⟨0, Nat.zero_le _, by simp, h0, Kc.refl _ _ _⟩
  case round =>
    obtain ⟨k, hk, rfl, hJs, hnx⟩ := hrel
    have hBx := hnx.cell hBs hBb
    by_cases hlt : k < ts.length
    · obtain ⟨m, hm⟩ : ∃ m : Nat, m = ts.length - 1 - k := ⟨_, rfl⟩
      have hml : m < ts.length := by omega
      have hmi : (ts.length : Int) - 1 - (k : Int) = (m : Int) := by omega
      rw [hmi]
      obtain ⟨b, off, rfl, hcs⟩ := view_at (f := Rul.cs) (n := 3) (fun _ => rfl) (by decide) (hnx.view hv (fun b off e => hbb b off e (fun h => by rw [h] at hlt; exact absurd hlt (Nat.not_lt_zero _)))) hml
      have c0 : wr.cell? ⟨b, off + m * 3, none⟩ = some (.int .u32 (ts[m]).number) := hcs 0 _ (by decide) rfl
      have c1 : wr.cell? ⟨b, off + m * 3 + 1, none⟩ = some (.slice (ts[m]).ta (ts[m]).ts.length (ts[m]).cap) := hcs 1 _ (by decide) rfl
      have c2 : wr.cell? ⟨b, off + m * 3 + 2, none⟩ = some (.int .u32 (ts[m]).verdict) := hcs 2 _ (by decide) rfl
      obtain ⟨fn, tmps, assign, body, hy, hR⟩ := hY _ ⟨m, hml⟩ wr hJs (by rw [dn_len _ _ hk]; exact hlt)
      simp only [Fin.getElem_fin] at hy
      have hd : wrap64 ((m : Int) - 1) = (m : Int) - 1 := by unfold wrap64; omega
      have hm0 : (m : Int) ≥ 0 := by omega
      have hmlt : (m : Int) < (ts.length : Int) := by omega
      have hdn : dn ts.length (k + 1) = dn ts.length k ++ [⟨m, hml⟩] := by subst hm; exact dn_succ _ _ hlt
      have HDN := hide hdn
      have HM := hide hm
      clear hm hcs hdn hmi
      gi_wp2
      refine hR.mono ?_
      rintro e W3 (⟨rfl, hJ3, hk3⟩ | ⟨rfl, hJx3⟩)
      · gi_wp2
        go_roundw
        case rel => exact ⟨k + 1, by omega, by have := HM.out; congr 1; omega, by rw [HDN.out]; exact hJ3, hnx.trans hk3⟩
        case measure => simp [intOf]
      · gi_wp2
        refine bodyPost_ret (results_none rfl _ _ _) rfl ?_
        exact ⟨⟨_, rfl⟩, .inr ⟨_, trivial, hJx3⟩⟩
    · obtain rfl : k = ts.length := by omega
      have hmi : (ts.length : Int) - 1 - (ts.length : Int) = -1 := by omega
      rw [hmi]
      gi_wp2
      go_end0
      exact ⟨⟨_, rfl⟩, .inl ⟨_, rfl, hJs⟩⟩
set_option maxHeartbeats 1000000 in
theorem backR_new (w : World) (a : Option Addr) (len cap : Nat) :
    Calls Tryz.prog 66 #[.slice a len cap] w fun e w' => e = .returned (.func (.func 112) #[] #[.pointer (some ⟨w.heap.size, 0, none⟩)]) ∧ w' = w.alloc (.cells #[.slice a len cap] 36) := by
  go_enter Tryz.func66, Tryz.ntmps66
  go_wp2
  go_ret
  exact ⟨rfl, rfl⟩
theorem backR_stops (n : Nat) (hn : 1 ≤ n) (Bs n₀ bl : Nat) (ao : Option Addr) (cap : Nat) (ts : List Rul) (hl : ts.length ≤ 1000000) (w : World) (hBb : Bs ≠ bl) (hbb : ∀ b off, ao = some ⟨b, off, none⟩ → ts ≠ [] → b ≠ bl)
    (hBs : w.cell? ⟨Bs, 0, none⟩ = some (.slice ao ts.length cap)) (hv : View w ao (rcs ts)) :
    SeqStopsK Fence.wide n Tryz.prog 112 #[.pointer (some ⟨Bs, 0, none⟩)] (fun x : Fin ts.length => #[Value.int .i64 (x.val : Int), .agg #[.int .u32 (ts[x]).number, .slice (ts[x]).ta (ts[x]).ts.length (ts[x]).cap, .int .u32 (ts[x]).verdict]]) (Kc n₀ bl) (fun ys => ys = dn ts.length ts.length) (fun _ => True) ts.length w := fun l J Jx W hW _ _ hY h0 => by
  have f : Fr nob w W := Fr.ofBelow hW _
  exact backR1_in n hn l Bs n₀ bl ao cap ts hl hBb hbb J Jx hY W (frC f hBs) (hv.fr0 f) h0
end Go.Proofs.YtjgcfffepkmojabGreat

namespace Go.Proofs.YtjgcfffepkmojabGreat
open Go.RowKit Go.Shelf
set_option linter.unusedVariables false
attribute [local go_sem] Oper.semAt_some

/-! ### One rule -/
theorem coT_len (t : Tst) (o : Nat) : 4 ≤ (coT t o).length ∧ (coT t o).length ≤ 7 := by
  unfold coT
  split
  · exact cmp4_len _ _ _ _
  split
  · exact cmp4_len _ _ _ _
  split
  · exact cmp4_len _ _ _ _
  split
  · exact cmp4_len _ _ _ _
  split
  · exact cmp4_len _ _ _ _
  · exact cmp4_len _ _ _ _
theorem coT_ne (t : Tst) (o : Nat) : coT t o ≠ [] := fun e => by have := coT_len t o; rw [e] at this; simp at this
theorem coTs_len (ts : List Tst) (l : List Ins) : l.length ≤ (coTs ts l).length ∧ (coTs ts l).length ≤ l.length + 7 * ts.length := by
  induction ts with
  | nil => exact ⟨Nat.le_refl _, Nat.le_refl _⟩
  | cons t ts ih =>
    have := coT_len t (coTs ts l).length
    simp only [coTs, List.length_append, List.length_cons]
    omega
/-- The instructions when the tests pre have come. -/
def coB (ts : List Tst) (v : Int) (pre : List (Fin ts.length)) : List Ins := coTs (pre.reverse.map (fun i => ts[i])) [vd v]
theorem coB_snoc (ts : List Tst) (v : Int) (pre : List (Fin ts.length)) (x : Fin ts.length) : coB ts v (pre ++ [x]) = coT ts[x] (coB ts v pre).length ++ coB ts v pre := by
  simp [coB, coTs]
theorem coB_all (ts : List Tst) (v : Int) : coB ts v (dn ts.length ts.length) = coTs ts [vd v] := by
  unfold coB
  rw [dn_all]
theorem coB_len (ts : List Tst) (v : Int) (pre : List (Fin ts.length)) : 1 ≤ (coB ts v pre).length ∧ (coB ts v pre).length ≤ 1 + 7 * pre.length := by
  have := coTs_len (pre.reverse.map (fun i => ts[i])) [vd v]
  simp at this
  unfold coB
  simp
  omega

theorem Kc.fr {bl : Nat} {w w4 W : World} (f : Fr nob w w4) (h : Kc w.heap.size bl w4 W) (hb : w.heap.size ≤ bl) : Fr nob w W :=
  ⟨h.os.trans f.os, h.tape.trans f.tape, h.output.trans f.output, Nat.le_trans f.size h.size, fun k hk _ => by
    have h1 : w.heap[k]? = some w.heap[k] := Array.getElem?_eq_getElem hk
    rw [h1]
    exact h.same k _ (f.heap h1 (fun e => e)) (by omega) (.inl hk)⟩
theorem fr_put {w W : World} (f : Fr nob w W) (D : Nat) (o : Obj) (hD : w.heap.size ≤ D) : Fr nob w (W.putObj D o) := f.grown (grownBy_putObj' W D o) (fun k hk e => by cases e; omega)
theorem own_putD {W : World} {D : Nat} {o o' : Obj} (h : W.heap[D]? = some o) (ho : o.isCells = false) {e : TypeId} {size : Nat} {v : Value} {n : Nat} {xs : List Value} (hw : W.ownsRow 0 e size v n xs) : (W.putObj D o').ownsRow 0 e size v n xs := by
  refine ⟨hw.1, ?_⟩
  rcases hw.2 with hn | ⟨g, cap, cur, rfl, h0, hgg, rest⟩
  · exact .inl hn
  · refine .inr ⟨g, cap, cur, rfl, h0, ((grownBy_putObj' W D o').block g (Array.getElem?_eq_some_iff.1 hgg).1 (fun e => ?_)).trans hgg, rest⟩
    cases e
    rw [h] at hgg
    cases hgg
    cases ho
theorem LB.store {n₀ bl g5 c5 : Nat} {v : Value} {W w5 : World} {R : List Ins} (kL : W.heap[bl]? = some (.cells #[v] 30 (0, 0))) (f5 : Fr nob W w5) (o5 : Own w5 29 4 (some ⟨g5, 0, none⟩) R.length c5 (flat R)) (hg : W.heap.size ≤ g5) (hn : n₀ ≤ W.heap.size) :
    LB n₀ bl (w5.setCell ⟨bl, 0, none⟩ (.slice (some ⟨g5, 0, none⟩) R.length c5)) R ∧ Fr (fun k => k = bl) W (w5.setCell ⟨bl, 0, none⟩ (.slice (some ⟨g5, 0, none⟩) R.length c5)) := by
  have k5 := f5.heap kL (fun h => h)
  have hb : bl < W.heap.size := (Array.getElem?_eq_some_iff.1 kL).1
  refine ⟨⟨g5, c5, by rw [heap_set k5]; rfl, own_fr o5 (fr_set _ _ _ _) (fun k hk e => ?_), by omega⟩, (f5.mono (T := fun k => k = bl) (fun _ _ h => h.elim)).setCell (p := ⟨bl, 0, none⟩) (fun _ => rfl) _⟩
  simp only [bk, Value.ownBlock, Option.some.injEq] at hk
  omega
set_option maxRecDepth 100000 in
set_option maxHeartbeats 8000000 in
theorem rule_any (w : World) (num ver : Int) (ta : Option Addr) (cap : Nat) (ts : List Tst) (nx : Ins) (hv : View w ta (tcs ts)) (hl : ts.length ≤ 6) (hr : ∀ t ∈ ts, t.rng ∧ ((0 ≤ t.arg ∧ t.arg ≤ 5) ∧ (0 ≤ t.how ∧ t.how ≤ 6))) :
    Calls Tryz.prog 67 #[.agg #[.int .u32 num, .slice ta ts.length cap, .int .u32 ver], insV nx] w fun e w' => ∃ g c, e = .returned (.slice (some ⟨g, 0, none⟩) (coR (num, ts, ver) nx).length c) ∧ Own w' 29 4 (some ⟨g, 0, none⟩) (coR (num, ts, ver) nx).length c (flat (coR (num, ts, ver) nx)) ∧ w.heap.size ≤ g ∧ Fr nob w w' := by
  have HV := hide hv
  have HR := hide hr
  clear hv hr
  refine (callsIn_wide (n := 9)).1 ?_
  refine callsIn_of_wp_marks Tryz.func67 rfl trivial ?_ rfl
  simp only [Tryz.ntmps67, List.size_toArray, List.length_cons, List.length_nil, Nat.reduceAdd, Nat.reduceSub, Array.replicate_succ, Array.replicate_zero, List.push_toArray, List.append_toArray, List.nil_append, List.cons_append]
  rw [wpIn_wide]
  go_wp2_with fail
  obtain ⟨w0, hw0⟩ : ∃ w0, w0 = ((w.alloc (.cells #[.int .u32 num, .slice ta ts.length cap, .int .u32 ver] 35)).alloc (.cells #[.int .u16 nx.code, .int .u8 nx.jt, .int .u8 nx.jf, .int .u32 nx.k] 29)) := ⟨_, rfl⟩
  have F0 : Hid (Fr nob w w0) := by rw [hw0]; exact ((Fr.refl _ w).alloc _).alloc _
  have KR : Hid (w0.heap[w.heap.size]? = some (.cells #[.int .u32 num, .slice ta ts.length cap, .int .u32 ver] 35 (0, 0))) := by
    rw [hw0]
    exact (((Fr.refl nob _).alloc _).heap (heap_alloc_new w _) (fun h => h))
  have KN : Hid (w0.heap[w.heap.size + 1]? = some (.cells #[.int .u16 nx.code, .int .u8 nx.jt, .int .u8 nx.jf, .int .u32 nx.k] 29 (0, 0))) := by
    rw [hw0]
    have h := heap_alloc_new (w.alloc (.cells #[.int .u32 num, .slice ta ts.length cap, .int .u32 ver] 35)) (.cells #[.int .u16 nx.code, .int .u8 nx.jt, .int .u8 nx.jf, .int .u32 nx.k] 29)
    rw [World.size_alloc] at h
    exact h
  have S0 : Hid (w0.heap.size = w.heap.size + 2) := hide (by rw [hw0, World.size_alloc, World.size_alloc])
  rw [← hw0]
  clear hw0
  refine (verdict_fr (Fr.refl nob w0) ver).mono ?_
  rintro e w1 ⟨rfl, f1⟩
  have HA := hide (ahead_new (w0 := w0) w1 [vd ver] f1 (Fr.refl _ _) (by simp) none 0 [] (.inl rfl) (fun _ => ⟨rfl, rfl⟩) 1 (by simp) (by simp))
  clear f1
  go_wp2_with fail
  refine HA.out.mono ?_
  rintro e w2 ⟨g2, c2, rfl, o2, hg2, f2⟩
  have f3 : Fr nob w0 (w2.alloc (.cells #[.slice (some ⟨g2, 0, none⟩) 1 c2] 30)) := f2.alloc _
  have O3 : Hid (Own (w2.alloc (.cells #[.slice (some ⟨g2, 0, none⟩) 1 c2] 30)) 29 4 (some ⟨g2, 0, none⟩) 1 c2 (flat [vd ver])) := own_fr (o2 : Own w2 29 4 (some ⟨g2, 0, none⟩) 1 c2 (flat [vd ver])) ((Fr.refl nob w2).alloc _) (fun _ _ h => h)
  have KL3 : Hid ((w2.alloc (.cells #[.slice (some ⟨g2, 0, none⟩) 1 c2] 30)).heap[w2.heap.size]? = some (.cells #[.slice (some ⟨g2, 0, none⟩) 1 c2] 30 (0, 0))) := heap_alloc_new w2 _
  have x1 : (w2.alloc (.cells #[.slice (some ⟨g2, 0, none⟩) 1 c2] 30)).cell? ⟨w.heap.size, 1, none⟩ = some (.slice ta ts.length cap) := cell_blk (f3.heap KR.out (fun h => h)) rfl
  have F3 := hide f3
  have hs2 := f2.size
  have S2 : Hid (w0.heap.size ≤ w2.heap.size ∧ w0.heap.size ≤ g2 ∧ g2 < w2.heap.size) := hide ⟨hs2, hg2, own_lt o2 rfl⟩
  clear o2 f2 f3 HA hs2 hg2
  go_wp2_with fail
  refine (backT_new _ ta ts.length cap).mono ?_
  rintro e w4 ⟨rfl, hw4⟩
  obtain ⟨bl, hbl⟩ : ∃ bl, bl = w2.heap.size := ⟨_, rfl⟩
  rw [World.size_alloc, ← hbl]
  have f34 : Fr nob (w2.alloc (.cells #[.slice (some ⟨g2, 0, none⟩) 1 c2] 30)) w4 := by rw [hw4]; exact (Fr.refl _ _).alloc _
  have KL4 := f34.heap KL3.out (fun h => h)
  rw [← hbl] at KL4
  have O4 := own_fr O3.out f34 (fun _ _ h => h)
  have F4 := F0.out.trans (F3.out.trans f34)
  have KR4 := f34.heap (F3.out.heap KR.out (fun h => h)) (fun h => h)
  have KN4 := f34.heap (F3.out.heap KN.out (fun h => h)) (fun h => h)
  have cBs : w4.cell? ⟨bl + 1, 0, none⟩ = some (.slice ta ts.length cap) := by
    rw [hw4]
    have h := heap_alloc_new (w2.alloc (.cells #[.slice (some ⟨g2, 0, none⟩) 1 c2] 30)) (.cells #[.slice ta ts.length cap] 33)
    rw [World.size_alloc, ← hbl] at h
    exact cell_blk h rfl
  have S4 : w4.heap.size = bl + 2 := by rw [hw4, World.size_alloc, World.size_alloc, hbl]
  have hS2 : w.heap.size + 2 ≤ bl ∧ w.heap.size + 2 ≤ g2 ∧ g2 < bl := by have := S2.out; have := S0.out; omega
  have hV4 := HV.out.fr0 F4
  have hbb : ∀ b off, ta = some ⟨b, off, none⟩ → ts ≠ [] → b ≠ bl := fun b off e hne eb => by
    have h0 : 0 < ts.length := List.length_pos_iff.2 hne
    obtain ⟨b', off', e', hc⟩ := view_at (f := Tst.cs) (n := 4) (fun _ => rfl) (by decide) HV.out h0
    rw [e] at e'
    cases e'
    have := World.block_lt_of_cell? w _ (hc 0 _ (by decide) rfl)
    simp only at this
    omega
  clear hw4 hbl f34 KL3 O3 F3 KR KN x1 S2 S0 F0
  go_wp2_with fail
  have hLB : LB w.heap.size bl w4 (coB ts ver []) := ⟨g2, c2, KL4, O4, by omega⟩
  have hKc := Kc.refl w.heap.size bl w4
  refine (wpIn_wide (n := 9)).1 ?_
  refine wpIn_rangeFunc_ownH (F := Fence.wide) rfl (by omega) (gf := 122) (lb := #[.pointer (some ⟨bl + 1, 0, none⟩)]) rfl trivial (enters_of Tryz.func122 (by kernel_rfl) rfl)
    (backT_stops 8 (by omega) (bl + 1) w.heap.size bl ta cap ts (by omega) w4 (by omega) hbb cBs hV4) (fun h k => h.trans k) (fun W l o o' hl h1 h2 h3 => Kc.putObj W l o o' (by omega) h1 h2) (Below.refl _ _) (fun _ => rfl)
    (fun pre W => LB w.heap.size bl W (coB ts ver pre) ∧ Kc w.heap.size bl w4 W)
    (fun _ _ _ => False)
    (fun s A B row hs hg hr => ⟨hs.1.grown hg hr, hs.2.grown hg (by omega) hr⟩)
    (fun _ _ _ _ _ hs _ _ => hs)
    ⟨hLB, hKc⟩
    (fun x a' W => ∃ Bx, Bx ≠ bl ∧ W.heap[Bx]? = some (.cells #[.int .i64 (ts[x]).arg, .int .i64 (ts[x]).how, .int .u64 (ts[x]).value, .int .u64 (ts[x]).mask] 101 (0, 0)) ∧
      a' = { tmps := #[.agg #[.int .u32 num, .slice ta ts.length cap, .int .u32 ver], insV nx, .pointer (some ⟨w.heap.size, 0, none⟩), .pointer (some ⟨w.heap.size + 1, 0, none⟩), .slice none 0 0, .pointer (some ⟨bl, 0, none⟩), undef, .pointer (some ⟨Bx, 0, none⟩), undef,
        .pointer (some ⟨w.heap.size, 2, none⟩), .int .u32 ver, insV (vd ver), .slice (some ⟨w1.heap.size, 0, none⟩) 1 1, .slice (some ⟨g2, 0, none⟩) 1 c2, .pointer (some ⟨w.heap.size, 1, none⟩), .slice ta ts.length cap, .func (.func 122) #[] #[.pointer (some ⟨bl + 1, 0, none⟩)],
        .int .i64 (x.val : Int), .agg #[.int .i64 (ts[x]).arg, .int .i64 (ts[x]).how, .int .u64 (ts[x]).value, .int .u64 (ts[x]).mask], undef, undef, undef, undef, undef, undef, undef, undef, undef, undef, undef, undef, undef, undef, undef, undef, undef, undef, undef, undef, undef], defers := [] })
    (fun x a' _ X Y row hs hg hr => by obtain ⟨Bx, h1, h2, h3⟩ := hs; exact ⟨Bx, h1, kept_cells hg hr h2 rfl, h3⟩)
    ?assign ?body ?done ?stop
  case assign =>
    rintro l pre x W K ⟨hi, hk⟩ hK
    have hlt : bl < W.heap.size := by obtain ⟨_, _, h, _⟩ := hi; exact (Array.getElem?_eq_some_iff.1 h).1
    gi_wp2
    exact hK _ _ ((KeepsOthers.alloc _ _).from _) (Kc.ofFr ((Fr.refl _ W).alloc _)) ⟨hi.fr ((Fr.refl _ W).alloc _), hk.trans (Kc.ofFr ((Fr.refl _ W).alloc _))⟩ ⟨W.heap.size, by omega, heap_alloc_new W _, rfl⟩
  case body =>
    rintro l pre x a' W hl2 ⟨r, hr⟩ ⟨⟨g, c, kL, oL, hg⟩, hk⟩ ⟨Bx, hBx, kX, rfl⟩ hlt
    have hRl := coB_len ts ver pre
    have hT := HR.out ts[x] (List.getElem_mem _)
    obtain ⟨R', hR'⟩ : ∃ R', R' = coB ts ver (pre ++ [x]) := ⟨_, rfl⟩
    have hRe := hR'.trans (coB_snoc ts ver pre x)
    have hPost : ∀ W', LB w.heap.size bl W' R' → Fr (fun k => k = bl) W W' → KeepsFrom w4.heap.size W W' ∧ Kc w.heap.size bl W W' ∧ LB w.heap.size bl W' (coB ts ver (pre ++ [x])) ∧ Kc w.heap.size bl w4 W' := fun W' h1 h2 =>
      ⟨keepsFrom_fr h2 (fun k e => ⟨_, by subst e; exact kL, rfl⟩), Kc.ofFr h2, by rw [← hR']; exact h1, hk.trans (Kc.ofFr h2)⟩
    generalize coB ts ver pre = R at *
    generalize ts[x] = t at *
    obtain ⟨n, hn⟩ : ∃ n, n = R.length := ⟨_, rfl⟩
    rw [← hn] at kL oL hRl
    have hn200 : n ≤ 200 := by omega
    have HT : Hid (∀ wx, Fr nob W wx → Calls Tryz.prog 114 #[.agg #[.int .i64 t.arg, .int .i64 t.how, .int .u64 t.value, .int .u64 t.mask], .int .i64 (n : Int)] wx fun e w' => ∃ g c, e = .returned (.slice (some ⟨g, 0, none⟩) (coT t n).length c) ∧ Own w' 29 4 (some ⟨g, 0, none⟩) (coT t n).length c (flat (coT t n)) ∧ Fr nob W w') := fun wx f =>
      (test_any wx t hT.1 hT.2 n hn200).mono fun e w' ⟨g, c, he, ho, _, h4⟩ => ⟨g, c, he, ho, f.trans h4⟩
    have HA : Hid (∀ g1 c1 wx, Fr nob W wx → Own wx 29 4 (some ⟨g1, 0, none⟩) (coT t n).length c1 (flat (coT t n)) → Calls Tryz.prog 64 #[.slice (some ⟨g, 0, none⟩) n c, .slice (some ⟨g1, 0, none⟩) (coT t n).length c1] wx fun e w' => ∃ g' c', e = .returned (.slice (some ⟨g', 0, none⟩) R'.length c') ∧ Own w' 29 4 (some ⟨g', 0, none⟩) R'.length c' (flat R') ∧ W.heap.size ≤ g' ∧ Fr nob W w') := fun g1 c1 wx f o1 =>
      ahead_own f g1 c1 (coT t n) _ rfl o1 (coT_ne t n) (some ⟨g, 0, none⟩) c R n hn ((own_v oL).fr0 f) (by intro e; rw [e] at hn; simp at hn; omega) (by have := coT_len t n; omega) (by omega) R'.length (by rw [hRe, hn]) R' (by rw [hRe, hn])
    have hmx : Tryz.prog.follows .mixedOrders = true := by kernel_rfl
    have hbW : bl < W.heap.size := (Array.getElem?_eq_some_iff.1 kL).1
    have cl : W.cell? ⟨bl, 0, none⟩ = some (.slice (some ⟨g, 0, none⟩) n c) := cell_blk kL rfl
    have zl : W.frozen? ⟨bl, 0, none⟩ = false := frozen_blk kL
    have b0 : W.cell? ⟨Bx, 0, none⟩ = some (.int .i64 t.arg) := cell_blk kX rfl
    have b1 : W.cell? ⟨Bx, 1, none⟩ = some (.int .i64 t.how) := cell_blk kX rfl
    have b2 : W.cell? ⟨Bx, 2, none⟩ = some (.int .u64 t.value) := cell_blk kX rfl
    have b3 : W.cell? ⟨Bx, 3, none⟩ = some (.int .u64 t.mask) := cell_blk kX rfl
    have KLH := hide kL
    have HP := hide hPost
    have HN : Hid (w.heap.size ≤ W.heap.size) := hide (by have := hk.size; omega)
    clear hRe hR' hT hPost kL oL kX hr hl2 hlt hRl hk hn hg hn200
    gi_wp2
    gi_region_with_o (first
      | (refine ⟨trivial, ?_⟩; gi_at_call 114; refine (CallsIn.inRound l (callsIn_wide.2 (HT.out _ (by exact (Fr.refl nob W).like rfl rfl rfl rfl)))).mono ?_; rintro e w1 ⟨g1, c1, rfl, o1, f1⟩; have dl : w1.cell? ⟨bl, 0, none⟩ = some (.slice (some ⟨g, 0, none⟩) n c) := frC f1 cl; have O1 := hide o1; have F1 := hide f1; clear o1 f1)
      | (refine ⟨trivial, ?_⟩; gi_at_call 64; refine (CallsIn.inRound l (callsIn_wide.2 (HA.out g1 c1 _ (by exact F1.out.like rfl rfl rfl rfl) (by exact O1.out)))).mono ?_; rintro e w5 ⟨g5, c5, rfl, o5, hg5, f5⟩; have zl5 : w5.frozen? ⟨bl, 0, none⟩ = false := frozen_blk (f5.heap KLH.out (fun h => h)); have cl5 : w5.cell? ⟨bl, 0, none⟩ = some (.slice (some ⟨g, 0, none⟩) n c) := frC f5 cl; have O5 := hide o5; have F5 := hide f5; have HG5 := hide hg5; clear o5 f5 hg5))
    all_goals (
      gi_wp2
      exact HP.out _ (LB.store KLH.out F5.out O5.out HG5.out HN.out).1 (LB.store KLH.out F5.out O5.out HG5.out HN.out).2)
  case done =>
    rintro D xs W hD rfl ⟨⟨g, c, kL, oL, hg⟩, hk⟩ hK
    rw [coB_all] at kL oL
    have kR := hk.same _ _ KR4 (by omega) (.inr rfl)
    have kN := hk.same _ _ KN4 (by omega) (.inr rfl)
    have cl : W.cell? ⟨bl, 0, none⟩ = some (.slice (some ⟨g, 0, none⟩) (coTs ts [vd ver]).length c) := cell_blk kL rfl
    have hlen := coTs_len ts [vd ver]
    obtain ⟨n, hn⟩ : ∃ n, n = (coTs ts [vd ver]).length := ⟨_, rfl⟩
    rw [← hn] at cl oL kL hlen
    have hn200 : n ≤ 200 := by simp at hlen; omega
    have n0 : W.cell? ⟨w.heap.size + 1, 0, none⟩ = some (.int .u16 nx.code) := cell_blk kN rfl
    have n1 : W.cell? ⟨w.heap.size + 1, 1, none⟩ = some (.int .u8 nx.jt) := cell_blk kN rfl
    have n2 : W.cell? ⟨w.heap.size + 1, 2, none⟩ = some (.int .u8 nx.jf) := cell_blk kN rfl
    have n3 : W.cell? ⟨w.heap.size + 1, 3, none⟩ = some (.int .u32 nx.k) := cell_blk kN rfl
    have HN := hide hn
    have KL := hide kL
    have OL := hide oL
    have KR := hide kR
    have HKD := hide hK
    have HKC := hide hk
    clear hn kL oL kR kN hK hk hlen hLB hKc cBs hV4 hbb KR4 KN4 O4 KL4
    obtain ⟨nc, njt, njf, nk⟩ := nx
    dsimp only at n0 n1 n2 n3
    go_wp2_with fail
    go_cut [29] from 27 to 29 (fun y wx => y = .bool (isLd0 ⟨nc, njt, njf, nk⟩) ∧ Fr nob W wx)
    case first =>
      rcases (by omega : nc ≠ 32 ∨ (nc = 32 ∧ njt ≠ 0) ∨ (nc = 32 ∧ njt = 0 ∧ njf ≠ 0) ∨ (nc = 32 ∧ njt = 0 ∧ njf = 0 ∧ nk ≠ 0) ∨ (nc = 32 ∧ njt = 0 ∧ njf = 0 ∧ nk = 0)) with h | ⟨rfl, h⟩ | ⟨rfl, rfl, h⟩ | ⟨rfl, rfl, rfl, h⟩ | ⟨rfl, rfl, rfl, rfl⟩
      · go_region_held3 (fun w' => w'.cell? ⟨w.heap.size + 1, 0, none⟩ = some (.int .u16 nc) ∧ w'.cell? ⟨w.heap.size + 1, 1, none⟩ = some (.int .u8 njt) ∧ w'.cell? ⟨w.heap.size + 1, 2, none⟩ = some (.int .u8 njf) ∧ w'.cell? ⟨w.heap.size + 1, 3, none⟩ = some (.int .u32 nk))
          (first | exact ⟨n0, n1, n2, n3⟩ | exact ⟨frC fa n0, frC fa n1, frC fa n2, frC fa n3⟩)
          ((go_at_call 68; refine (load_fr (w0 := W) (by exact (Fr.refl nob W).like rfl rfl rfl rfl) 0).mono ?_; rintro e wa ⟨rfl, fa⟩))
        go_wp2_with fail
        go_meet
        exact ⟨by simp [isLd0, h], fa⟩
      · go_region_held3 (fun w' => w'.cell? ⟨w.heap.size + 1, 0, none⟩ = some (.int .u16 32) ∧ w'.cell? ⟨w.heap.size + 1, 1, none⟩ = some (.int .u8 njt) ∧ w'.cell? ⟨w.heap.size + 1, 2, none⟩ = some (.int .u8 njf) ∧ w'.cell? ⟨w.heap.size + 1, 3, none⟩ = some (.int .u32 nk))
          (first | exact ⟨n0, n1, n2, n3⟩ | exact ⟨frC fa n0, frC fa n1, frC fa n2, frC fa n3⟩)
          ((go_at_call 68; refine (load_fr (w0 := W) (by exact (Fr.refl nob W).like rfl rfl rfl rfl) 0).mono ?_; rintro e wa ⟨rfl, fa⟩))
        go_wp2_with fail
        go_meet
        exact ⟨by simp [isLd0, h], fa⟩
      · go_region_held3 (fun w' => w'.cell? ⟨w.heap.size + 1, 0, none⟩ = some (.int .u16 32) ∧ w'.cell? ⟨w.heap.size + 1, 1, none⟩ = some (.int .u8 0) ∧ w'.cell? ⟨w.heap.size + 1, 2, none⟩ = some (.int .u8 njf) ∧ w'.cell? ⟨w.heap.size + 1, 3, none⟩ = some (.int .u32 nk))
          (first | exact ⟨n0, n1, n2, n3⟩ | exact ⟨frC fa n0, frC fa n1, frC fa n2, frC fa n3⟩)
          ((go_at_call 68; refine (load_fr (w0 := W) (by exact (Fr.refl nob W).like rfl rfl rfl rfl) 0).mono ?_; rintro e wa ⟨rfl, fa⟩))
        go_wp2_with fail
        go_meet
        exact ⟨by simp [isLd0, h], fa⟩
      · go_region_held3 (fun w' => w'.cell? ⟨w.heap.size + 1, 0, none⟩ = some (.int .u16 32) ∧ w'.cell? ⟨w.heap.size + 1, 1, none⟩ = some (.int .u8 0) ∧ w'.cell? ⟨w.heap.size + 1, 2, none⟩ = some (.int .u8 0) ∧ w'.cell? ⟨w.heap.size + 1, 3, none⟩ = some (.int .u32 nk))
          (first | exact ⟨n0, n1, n2, n3⟩ | exact ⟨frC fa n0, frC fa n1, frC fa n2, frC fa n3⟩)
          ((go_at_call 68; refine (load_fr (w0 := W) (by exact (Fr.refl nob W).like rfl rfl rfl rfl) 0).mono ?_; rintro e wa ⟨rfl, fa⟩))
        go_wp2_with fail
        go_meet
        exact ⟨by simp [isLd0, h], fa⟩
      · go_region_held3 (fun w' => w'.cell? ⟨w.heap.size + 1, 0, none⟩ = some (.int .u16 32) ∧ w'.cell? ⟨w.heap.size + 1, 1, none⟩ = some (.int .u8 0) ∧ w'.cell? ⟨w.heap.size + 1, 2, none⟩ = some (.int .u8 0) ∧ w'.cell? ⟨w.heap.size + 1, 3, none⟩ = some (.int .u32 0))
          (first | exact ⟨n0, n1, n2, n3⟩ | exact ⟨frC fa n0, frC fa n1, frC fa n2, frC fa n3⟩)
          ((go_at_call 68; refine (load_fr (w0 := W) (by exact (Fr.refl nob W).like rfl rfl rfl rfl) 0).mono ?_; rintro e wa ⟨rfl, fa⟩))
        go_wp2_with fail
        go_meet
        exact ⟨by simp [isLd0], fa⟩
    case rest =>
      obtain ⟨rfl, fw⟩ := hcut
      rename World => wz
      have FW : Hid (Fr nob w wz) := (Kc.fr F4 HKC.out (by omega)).trans fw
      have m0 : wz.cell? ⟨bl, 0, none⟩ = some (.slice (some ⟨g, 0, none⟩) n c) := frC fw cl
      have m1 : wz.cell? ⟨w.heap.size, 0, none⟩ = some (.int .u32 num) := cell_blk (fw.heap KR.out (fun h => h)) rfl
      have VL : Hid (View wz (some ⟨g, 0, none⟩) (flat (coTs ts [vd ver]))) := (own_v OL.out).fr0 fw
      have HKZ : Hid (wz.heap[D]? = some (.deferred (some []))) := fw.heap HKD.out (fun h => h)
      clear fw n0 n1 n2 n3 cl KL OL KR HKD HKC
      obtain ⟨M, hM⟩ : ∃ M, M = n + (if isLd0 ⟨nc, njt, njf, nk⟩ then 1 else 0) := ⟨_, rfl⟩
      have hM255 : M ≤ 255 := by rw [hM]; split <;> omega
      have hcr : coR (num, ts, ver) ⟨nc, njt, njf, nk⟩ = [ld 0, br 21 num 0 M] ++ coTs ts [vd ver] := by rw [hM, HN.out]; rfl
      have hcl : (coR (num, ts, ver) ⟨nc, njt, njf, nk⟩).length = 2 + n := by rw [hcr, List.length_append, HN.out]; rfl
      have HA : Hid (∀ wb wx, Fr nob wz wb → Fr nob (wb.alloc (.cells #[.int .u16 32, .int .u8 0, .int .u8 0, .int .u32 0, .int .u16 21, .int .u8 0, .int .u8 (M : Int), .int .u32 num] 29)) wx → Calls Tryz.prog 64 #[.slice (some ⟨g, 0, none⟩) n c, .slice (some ⟨wb.heap.size, 0, none⟩) 2 2] wx fun e w' => ∃ g' c', e = .returned (.slice (some ⟨g', 0, none⟩) (2 + n) c') ∧ Own w' 29 4 (some ⟨g', 0, none⟩) (2 + n) c' (flat (coR (num, ts, ver) ⟨nc, njt, njf, nk⟩)) ∧ wz.heap.size ≤ g' ∧ Fr nob wz w') := fun wb wx h1 h2 => by
        have h := ahead_new (w0 := wz) wb [ld 0, br 21 num 0 M] h1 (by exact h2) (by simp) (some ⟨g, 0, none⟩) c (coTs ts [vd ver]) VL.out (fun e => by have := coTs_len ts [vd ver]; rw [e] at this; simp at this) 2 (by simp) (by have := HN.out; omega)
        rw [← hcr, ← HN.out] at h
        exact h
      have HCL := hide hcl
      have HM := hide hM
      clear hcr hcl hM VL
      by_cases hi : isLd0 ⟨nc, njt, njf, nk⟩ = true
      · have hw1 : Hid ((n : Int) + 1 = (M : Int)) := hide (by have h := HM.out; rw [if_pos hi] at h; omega)
        rw [hi]
        clear HM hi
        go_wp2_with fail
        rw [hw1.out]
        go_region_held3 (fun w' => w'.cell? ⟨bl, 0, none⟩ = some (.slice (some ⟨g, 0, none⟩) n c) ∧ w'.cell? ⟨w.heap.size, 0, none⟩ = some (.int .u32 num))
          (first | exact ⟨m0, m1⟩ | exact ⟨frC fa m0, frC fa m1⟩ | exact ⟨frC fb m0, frC fb m1⟩ | exact ⟨frC (fb.alloc _) m0, frC (fb.alloc _) m1⟩ | exact ⟨frC f9 m0, frC f9 m1⟩)
          (first
            | (go_at_call 68; refine (load_fr (w0 := wz) (by exact (Fr.refl nob wz).like rfl rfl rfl rfl) 0).mono ?_; rintro e wa ⟨rfl, fa⟩)
            | (go_at_call 69; refine (branch_fr (w0 := wz) (by exact fa.like rfl rfl rfl rfl) 21 num 0 M (by omega) hM255).mono ?_; rintro e wb ⟨rfl, fb⟩)
            | (go_at_call 64; refine (HA.out wb _ fb (by exact (Fr.refl nob _).like rfl rfl rfl rfl)).mono ?_; rintro e w9 ⟨g9, c9, rfl, o9, hg9, f9⟩))
        have O9 := hide o9
        have F9 := hide (FW.out.trans f9)
        have hs := FW.out.size
        have K9 := f9.heap HKZ.out (fun h => h)
        clear o9 f9 fa fb
        go_wp2_with fail
        refine ⟨by simp, .inl ⟨_, _, rfl, run_takeDeferred K9, ?_⟩⟩
        exact ⟨_, results_tmp rfl _ _ _, g9, c9, by rw [HCL.out]; rfl, by rw [HCL.out]; exact own_putD K9 rfl O9.out, by omega, fr_put F9.out D _ (by have := F4.size; omega)⟩
      · obtain rfl : n = M := by have h := HM.out; rw [if_neg hi] at h; omega
        rw [Bool.not_eq_true] at hi
        rw [hi]
        clear HM hi
        go_wp2_with fail
        go_region_held3 (fun w' => w'.cell? ⟨bl, 0, none⟩ = some (.slice (some ⟨g, 0, none⟩) n c) ∧ w'.cell? ⟨w.heap.size, 0, none⟩ = some (.int .u32 num))
          (first | exact ⟨m0, m1⟩ | exact ⟨frC fa m0, frC fa m1⟩ | exact ⟨frC fb m0, frC fb m1⟩ | exact ⟨frC (fb.alloc _) m0, frC (fb.alloc _) m1⟩ | exact ⟨frC f9 m0, frC f9 m1⟩)
          (first
            | (go_at_call 68; refine (load_fr (w0 := wz) (by exact (Fr.refl nob wz).like rfl rfl rfl rfl) 0).mono ?_; rintro e wa ⟨rfl, fa⟩)
            | (go_at_call 69; refine (branch_fr (w0 := wz) (by exact fa.like rfl rfl rfl rfl) 21 num 0 n (by omega) hM255).mono ?_; rintro e wb ⟨rfl, fb⟩)
            | (go_at_call 64; refine (HA.out wb _ fb (by exact (Fr.refl nob _).like rfl rfl rfl rfl)).mono ?_; rintro e w9 ⟨g9, c9, rfl, o9, hg9, f9⟩))
        have O9 := hide o9
        have F9 := hide (FW.out.trans f9)
        have hs := FW.out.size
        have K9 := f9.heap HKZ.out (fun h => h)
        clear o9 f9 fa fb
        go_wp2_with fail
        refine ⟨by simp, .inl ⟨_, _, rfl, run_takeDeferred K9, ?_⟩⟩
        exact ⟨_, results_tmp rfl _ _ _, g9, c9, by rw [HCL.out]; rfl, by rw [HCL.out]; exact own_putD K9 rfl O9.out, by omega, fr_put F9.out D _ (by have := F4.size; omega)⟩
  case stop =>
    rintro D c pre W _ _ h _
    exact h.elim
end Go.Proofs.YtjgcfffepkmojabGreat

namespace Go.Proofs.YtjgcfffepkmojabGreat
open Go.RowKit
set_option linter.unusedVariables false

/-! ### May the rules be? -/
set_option maxRecDepth 100000 in
set_option maxHeartbeats 4000000 in
theorem coWrong_any (w : World) (t : Tst) : Calls Tryz.prog 110 #[.agg #[.int .i64 t.arg, .int .i64 t.how, .int .u64 t.value, .int .u64 t.mask]] w fun e w' => e = .returned (.bool (!mayT t)) ∧ Fr nob w w' := by
  obtain ⟨arg, how, value, mask⟩ := t
  have hm : mayT ⟨arg, how, value, mask⟩ = (decide (0 ≤ arg) && decide (arg ≤ 5) && decide (0 ≤ how) && decide (how ≤ 6)) := rfl
  rcases (by omega : arg < 0 ∨ (0 ≤ arg ∧ 6 ≤ arg) ∨ (0 ≤ arg ∧ arg < 6 ∧ how < 0) ∨ (0 ≤ arg ∧ arg < 6 ∧ 0 ≤ how ∧ 6 < how) ∨ (0 ≤ arg ∧ arg < 6 ∧ 0 ≤ how ∧ how ≤ 6)) with h | ⟨h1, h2⟩ | ⟨h1, h2, h3⟩ | ⟨h1, h2, h3, h4⟩ | ⟨h1, h2, h3, h4⟩
  · have hr : mayT ⟨arg, how, value, mask⟩ = false := by rw [hm, decide_eq_false (by omega)]; rfl
    rw [hr]
    clear hm hr
    go_enter Tryz.func110, Tryz.ntmps110
    go_wp2
    go_ret
    exact ⟨rfl, (Fr.refl _ w).alloc _⟩
  · have hr : mayT ⟨arg, how, value, mask⟩ = false := by rw [hm, decide_eq_false (show ¬ arg ≤ 5 by omega)]; simp
    have g1 : ¬ arg < 0 := by omega
    rw [hr]
    clear hm hr
    go_enter Tryz.func110, Tryz.ntmps110
    go_wp2
    go_ret
    exact ⟨rfl, (Fr.refl _ w).alloc _⟩
  · have hr : mayT ⟨arg, how, value, mask⟩ = false := by rw [hm, decide_eq_false (show ¬ 0 ≤ how by omega)]; simp
    have g1 : ¬ arg < 0 := by omega
    have g2 : ¬ 6 ≤ arg := by omega
    rw [hr]
    clear hm hr
    go_enter Tryz.func110, Tryz.ntmps110
    go_wp2
    go_ret
    exact ⟨rfl, (Fr.refl _ w).alloc _⟩
  · have hr : mayT ⟨arg, how, value, mask⟩ = false := by rw [hm, decide_eq_false (show ¬ how ≤ 6 by omega)]; simp
    have g1 : ¬ arg < 0 := by omega
    have g2 : ¬ 6 ≤ arg := by omega
    have g3 : ¬ how < 0 := by omega
    rw [hr]
    clear hm hr
    go_enter Tryz.func110, Tryz.ntmps110
    go_wp2
    go_ret
    exact ⟨rfl, (Fr.refl _ w).alloc _⟩
  · have hr : mayT ⟨arg, how, value, mask⟩ = true := by rw [hm, decide_eq_true (show 0 ≤ arg by omega), decide_eq_true (show arg ≤ 5 by omega), decide_eq_true (show 0 ≤ how by omega), decide_eq_true (show how ≤ 6 by omega)]; rfl
    have g1 : ¬ arg < 0 := by omega
    have g2 : ¬ 6 ≤ arg := by omega
    have g3 : ¬ how < 0 := by omega
    have g4 : ¬ 6 < how := by omega
    rw [hr]
    clear hm hr
    go_enter Tryz.func110, Tryz.ntmps110
    go_wp2
    go_ret
    exact ⟨rfl, (Fr.refl _ w).alloc _⟩
def anyW (ts : List Tst) : Bool := ts.any fun t => !mayT t
set_option maxRecDepth 100000 in
set_option maxHeartbeats 4000000 in
theorem indexFunc_any (w : World) (ao : Option Addr) (cap : Nat) (ts : List Tst) (hv : View w ao (tcs ts)) (hl : ts.length ≤ 9223372036854775807) :
    Calls Tryz.prog 120 #[.slice ao ts.length cap, .func (.func 110) #[] #[]] w fun e w' => ∃ k : Int, e = .returned (.int .i64 k) ∧ decide (0 ≤ k) = anyW ts ∧ Fr nob w w' := by
  have HV := hide hv
  clear hv
  go_enter Tryz.func120, Tryz.ntmps120
  go_wp2_with fail
  go_loopw [8] (fun y wr => ∃ i : Nat, i ≤ ts.length ∧ y = .int .i64 i ∧ (∀ j (hj : j < ts.length), j < i → mayT ts[j] = true) ∧ Fr nob w wr) (fun y _ => ts.length - (intOf y).toNat)
  case atStart => exact ⟨0, Nat.zero_le _, rfl, fun j _ h => absurd h (Nat.not_lt_zero _), Fr.refl _ _⟩
  case round =>
    obtain ⟨i, hi, rfl, hall, f⟩ := hrel
    by_cases hlt : i < ts.length
    · obtain ⟨b, off, rfl, hcs⟩ := view_at (f := Tst.cs) (n := 4) (fun _ => rfl) (by decide) (HV.out.fr0 f) hlt
      have c0 : wr.cell? ⟨b, off + i * 4, none⟩ = some (.int .i64 (ts[i]).arg) := hcs 0 _ (by decide) rfl
      have c1 : wr.cell? ⟨b, off + i * 4 + 1, none⟩ = some (.int .i64 (ts[i]).how) := hcs 1 _ (by decide) rfl
      have c2 : wr.cell? ⟨b, off + i * 4 + 2, none⟩ = some (.int .u64 (ts[i]).value) := hcs 2 _ (by decide) rfl
      have c3 : wr.cell? ⟨b, off + i * 4 + 3, none⟩ = some (.int .u64 (ts[i]).mask) := hcs 3 _ (by decide) rfl
      have hlti : (i : Int) < (ts.length : Int) := by omega
      obtain ⟨t, ht⟩ : ∃ t, t = ts[i] := ⟨_, rfl⟩
      rw [← ht] at c0 c1 c2 c3
      have HT := hide ht
      have HALL := hide hall
      have FF := hide f
      clear hcs ht hall f
      go_wp2_with fail
      refine (coWrong_any _ t).mono ?_
      rintro e w1 ⟨rfl, f1⟩
      have F1 := hide (FF.out.trans f1)
      clear f1 FF c0 c1 c2 c3
      cases hm : mayT t with
      | true =>
        have HM := hide hm
        clear hm
        rw [Bool.not_true]
        go_wp2
        refine ⟨⟨i + 1, by omega, by go_num, fun j hj h => ?_, F1.out⟩, ?_⟩
        · rcases Nat.lt_or_ge j i with h1 | h1
          · exact HALL.out j hj h1
          · obtain rfl : j = i := by omega
            rw [← HT.out]
            exact HM.out
        · simp [intOf]
          omega
      | false =>
        have HM := hide hm
        clear hm
        rw [Bool.not_false]
        go_wp2
        go_ret
        refine ⟨i, rfl, ?_, F1.out⟩
        have h1 : anyW ts = true := by
          unfold anyW
          rw [List.any_eq_true]
          exact ⟨t, by rw [HT.out]; exact List.getElem_mem _, by rw [HM.out]; rfl⟩
        rw [h1]
        simp
    · obtain rfl : i = ts.length := by omega
      have HALL := hide hall
      have FF := hide f
      clear hall f
      go_wp2
      go_ret
      refine ⟨-1, rfl, ?_, FF.out⟩
      have h1 : anyW ts = false := by
        unfold anyW
        rw [List.any_eq_false]
        intro t ht
        obtain ⟨j, hj, rfl⟩ := List.getElem_of_mem ht
        rw [HALL.out j hj hj]
        simp
      rw [h1]
      rfl
set_option maxHeartbeats 4000000 in
theorem contains_any (w : World) (ao : Option Addr) (cap : Nat) (ts : List Tst) (hv : View w ao (tcs ts)) (hl : ts.length ≤ 9223372036854775807) :
    Calls Tryz.prog 109 #[.slice ao ts.length cap, .func (.func 110) #[] #[]] w fun e w' => e = .returned (.bool (anyW ts)) ∧ Fr nob w w' := by
  go_enter Tryz.func109, Tryz.ntmps109
  go_wp2_with fail
  refine (indexFunc_any _ ao cap ts hv hl).mono ?_
  rintro e w1 ⟨k, rfl, hk, f1⟩
  have HK := hide hk
  have F1 := hide f1
  clear hk f1
  go_wp2
  go_ret
  exact ⟨by rw [← HK.out]; first | rfl | simp, F1.out⟩
def mayR (x : Rul) : Bool := decide (x.ts.length ≤ 6) && x.ts.all mayT
theorem anyW_all (ts : List Tst) : anyW ts = !(ts.all mayT) := by
  unfold anyW
  induction ts with
  | nil => rfl
  | cons t ts ih => simp only [List.any_cons, List.all_cons, ih, Bool.not_and]
def mayA (rs : List Rul) : Bool := decide (rs.length ≤ 40) && rs.all mayR
set_option maxRecDepth 100000 in
set_option maxHeartbeats 4000000 in
theorem mayBe_any (w : World) (ao : Option Addr) (cap : Nat) (rs : List Rul) (hv : RV w ao rs) (hl : rs.length ≤ 9223372036854775807) (ht : ∀ x ∈ rs, x.ts.length ≤ 9223372036854775807) :
    Calls Tryz.prog 63 #[.slice ao rs.length cap] w fun e w' => e = .returned (.bool (mayA rs)) ∧ Fr nob w w' := by
  have HV := hide hv
  have HT := hide ht
  clear hv ht
  by_cases h40 : 40 < rs.length
  · have hm : mayA rs = false := by unfold mayA; rw [decide_eq_false (by omega)]; rfl
    have hd : (40 : Int) < (rs.length : Int) := by omega
    rw [hm]
    clear hm h40
    go_enter Tryz.func63, Tryz.ntmps63
    go_wp2
    go_ret
    exact ⟨rfl, Fr.refl _ _⟩
  have hd : ¬ (40 : Int) < (rs.length : Int) := by omega
  have H40 : Hid (mayA rs = rs.all mayR) := hide (by unfold mayA; rw [decide_eq_true (by omega)]; rfl)
  clear h40
  go_enter Tryz.func63, Tryz.ntmps63
  go_wp2_with fail
  go_loopw [10] (fun y wr => ∃ i : Nat, i ≤ rs.length ∧ y = .int .i64 i ∧ (∀ j (hj : j < rs.length), j < i → mayR rs[j] = true) ∧ Fr nob w wr) (fun y _ => rs.length - (intOf y).toNat)
  case atStart => exact ⟨0, Nat.zero_le _, rfl, fun j _ h => absurd h (Nat.not_lt_zero _), Fr.refl _ _⟩
  case round =>
    obtain ⟨i, hi, rfl, hall, f⟩ := hrel
    by_cases hlt : i < rs.length
    · have rv := HV.out.fr0 f
      obtain ⟨b, off, rfl, hcs⟩ := view_at (f := Rul.cs) (n := 3) (fun _ => rfl) (by decide) rv.v hlt
      obtain ⟨x, hx⟩ : ∃ x, x = rs[i] := ⟨_, rfl⟩
      have hxm : x ∈ rs := by rw [hx]; exact List.getElem_mem _
      have c0 : wr.cell? ⟨b, off + i * 3, none⟩ = some (.int .u32 x.number) := by rw [hx]; exact hcs 0 _ (by decide) rfl
      have c1 : wr.cell? ⟨b, off + i * 3 + 1, none⟩ = some (.slice x.ta x.ts.length x.cap) := by rw [hx]; exact hcs 1 _ (by decide) rfl
      have c2 : wr.cell? ⟨b, off + i * 3 + 2, none⟩ = some (.int .u32 x.verdict) := by rw [hx]; exact hcs 2 _ (by decide) rfl
      have hlti : (i : Int) < (rs.length : Int) := by omega
      have HX := hide hx
      have HALL := hide hall
      have FF := hide (f.alloc (.cells #[.int .u32 x.number, .slice x.ta x.ts.length x.cap, .int .u32 x.verdict] 35))
      have HC := hide (contains_any (wr.alloc (.cells #[.int .u32 x.number, .slice x.ta x.ts.length x.cap, .int .u32 x.verdict] 35)) x.ta x.cap x.ts ((rv.t x hxm).fr0 ((Fr.refl _ wr).alloc _)) (HT.out x hxm))
      have htl := HT.out x hxm
      clear hcs hx hall f rv hxm
      by_cases h6 : 6 < x.ts.length
      · have hd6 : (6 : Int) < (x.ts.length : Int) := by omega
        have hm : mayR x = false := by unfold mayR; rw [decide_eq_false (by omega)]; rfl
        have HM := hide hm
        clear hm h6
        go_wp2
        go_ret
        refine ⟨?_, FF.out⟩
        have hA : rs.all mayR = false := by
          rw [List.all_eq_false]
          exact ⟨x, by rw [HX.out]; exact List.getElem_mem _, by rw [HM.out]; simp⟩
        rw [H40.out, hA]
        rfl
      · have hd6 : ¬ (6 : Int) < (x.ts.length : Int) := by omega
        have hm : mayR x = !(anyW x.ts) := by unfold mayR; rw [decide_eq_true (by omega), anyW_all, Bool.not_not]; rfl
        have HM := hide hm
        clear hm h6
        go_wp2_with fail
        refine HC.out.mono ?_
        rintro e w1 ⟨rfl, f1⟩
        have F1 := hide (FF.out.trans f1)
        clear f1 FF HC
        cases ha : anyW x.ts with
        | true =>
          have HA := hide ha
          clear ha
          go_wp2
          go_ret
          refine ⟨?_, F1.out⟩
          have hA : rs.all mayR = false := by
            rw [List.all_eq_false]
            exact ⟨x, by rw [HX.out]; exact List.getElem_mem _, by rw [HM.out, HA.out]; simp⟩
          rw [H40.out, hA]
          rfl
        | false =>
          have HA := hide ha
          clear ha
          go_wp2
          refine ⟨⟨i + 1, by omega, by go_num, fun j hj h => ?_, F1.out⟩, ?_⟩
          · rcases Nat.lt_or_ge j i with h1 | h1
            · exact HALL.out j hj h1
            · obtain rfl : j = i := by omega
              rw [← HX.out, HM.out, HA.out]
              rfl
          · simp [intOf]
            omega
    · obtain rfl : i = rs.length := by omega
      have HALL := hide hall
      have FF := hide f
      clear hall f
      go_wp2
      go_ret
      refine ⟨?_, FF.out⟩
      have hA : rs.all mayR = true := by
        rw [List.all_eq_true]
        intro x hx
        obtain ⟨j, hj, rfl⟩ := List.getElem_of_mem hx
        exact HALL.out j hj hj
      rw [H40.out, hA]
      rfl
end Go.Proofs.YtjgcfffepkmojabGreat

namespace Go.Proofs.YtjgcfffepkmojabGreat
open Go.RowKit Go.Shelf
set_option linter.unusedVariables false
attribute [local go_sem] Oper.semAt_some

/-! ### A policy -/
def rd (x : Rul) : RD := (x.number, x.ts, x.verdict)
/-- The instructions when the rules pre have come. -/
def coQ (rs : List Rul) (els : Int) (pre : List (Fin rs.length)) : List Ins := coRs els ((pre.reverse.map (fun i => rs[i])).map rd)
theorem coQ_snoc (rs : List Rul) (els : Int) (pre : List (Fin rs.length)) (x : Fin rs.length) : coQ rs els (pre ++ [x]) = coR (rd rs[x]) ((coQ rs els pre).headD zI) ++ coQ rs els pre := by
  simp [coQ, coRs]
theorem coQ_all (rs : List Rul) (els : Int) : coQ rs els (dn rs.length rs.length) = coRs els (rs.map rd) := by
  unfold coQ
  rw [dn_all]
theorem coR_len (x : RD) (nx : Ins) : 3 ≤ (coR x nx).length ∧ (coR x nx).length ≤ 3 + 7 * x.2.1.length := by
  have := coTs_len x.2.1 [vd x.2.2]
  simp [coR] at this ⊢
  omega
theorem coRs_len (els : Int) (rs : List RD) (h : ∀ x ∈ rs, x.2.1.length ≤ 6) : 1 ≤ (coRs els rs).length ∧ (coRs els rs).length ≤ 1 + 45 * rs.length := by
  induction rs with
  | nil => simp [coRs]
  | cons x rs ih =>
    have h1 := coR_len x ((coRs els rs).headD zI)
    have h2 := h x (List.mem_cons_self ..)
    have h3 := ih (fun y hy => h y (List.mem_cons_of_mem _ hy))
    simp only [coRs, List.length_append, List.length_cons]
    omega
theorem coQ_len (rs : List Rul) (els : Int) (pre : List (Fin rs.length)) (h : ∀ x ∈ rs, x.ts.length ≤ 6) : 1 ≤ (coQ rs els pre).length ∧ (coQ rs els pre).length ≤ 1 + 45 * pre.length := by
  have := coRs_len els ((pre.reverse.map (fun i => rs[i])).map rd) (fun x hx => by
    simp only [List.mem_map] at hx
    obtain ⟨y, ⟨i, _, rfl⟩, rfl⟩ := hx
    exact h _ (List.getElem_mem _))
  simpa [coQ] using this
theorem mayA_d (rs : List Rul) : mayD (rs.map rd) = mayA rs := by
  unfold mayD mayA
  rw [List.length_map, List.all_map]
  rfl

set_option maxRecDepth 100000 in
set_option maxHeartbeats 8000000 in
theorem copol_good (w : World) (arch els oth : Int) (ao : Option Addr) (cap : Nat) (rs : List Rul) (hv : RV w ao rs) (hmay : mayA rs = true) (hr : ∀ x ∈ rs, ∀ t ∈ x.ts, t.rng) :
    Calls Tryz.prog 51 #[.agg #[.int .u32 arch, .slice ao rs.length cap, .int .u32 els, .int .u32 oth]] w fun e w' => ∃ g c, e = .returned (.tuple #[.slice (some ⟨g, 0, none⟩) (coP arch els oth (rs.map rd)).length c, .int .i64 0]) ∧ Own w' 29 4 (some ⟨g, 0, none⟩) (coP arch els oth (rs.map rd)).length c (flat (coP arch els oth (rs.map rd))) ∧ w.heap.size ≤ g ∧ Fr nob w w' := by
  have hl : rs.length ≤ 40 := by
    unfold mayA at hmay
    rw [Bool.and_eq_true] at hmay
    exact of_decide_eq_true hmay.1
  have h6 : ∀ x ∈ rs, x.ts.length ≤ 6 ∧ ∀ t ∈ x.ts, (0 ≤ t.arg ∧ t.arg ≤ 5) ∧ (0 ≤ t.how ∧ t.how ≤ 6) := fun x hx => by
    unfold mayA at hmay
    rw [Bool.and_eq_true, List.all_eq_true] at hmay
    have h := hmay.2 x hx
    unfold mayR at h
    rw [Bool.and_eq_true, List.all_eq_true] at h
    refine ⟨of_decide_eq_true h.1, fun t ht => ?_⟩
    have h2 := h.2 t ht
    unfold mayT at h2
    simp only [Bool.and_eq_true, decide_eq_true_eq] at h2
    omega
  have HV := hide hv
  have HR := hide hr
  have H6 := hide h6
  have HM := hide (mayBe_any (w.alloc (.cells #[.int .u32 arch, .slice ao rs.length cap, .int .u32 els, .int .u32 oth] 38)) ao cap rs (hv.fr0 ((Fr.refl _ w).alloc _)) (by omega) (fun x hx => by have := (h6 x hx).1; omega))
  rw [hmay] at HM
  clear hv hr h6 hmay
  refine (callsIn_wide (n := 9)).1 ?_
  refine callsIn_of_wp_marks Tryz.func51 rfl trivial ?_ rfl
  simp only [Tryz.ntmps51, List.size_toArray, List.length_cons, List.length_nil, Nat.reduceAdd, Nat.reduceSub, Array.replicate_succ, Array.replicate_zero, List.push_toArray, List.append_toArray, List.nil_append, List.cons_append]
  rw [wpIn_wide]
  go_wp2_with fail
  refine HM.out.mono ?_
  rintro e w0 ⟨rfl, f0⟩
  have F0 : Hid (Fr nob w w0) := ((Fr.refl _ w).alloc _).trans f0
  have kp := f0.heap (heap_alloc_new w (.cells #[.int .u32 arch, .slice ao rs.length cap, .int .u32 els, .int .u32 oth] 38)) (fun h => h)
  have p2 : w0.cell? ⟨w.heap.size, 2, none⟩ = some (.int .u32 els) := cell_blk kp rfl
  have KP := hide kp
  have S0 : Hid (w.heap.size + 1 ≤ w0.heap.size) := hide (by have := f0.size; rw [World.size_alloc] at this; exact this)
  clear kp f0 HM
  go_wp2_with fail
  refine (verdict_fr (Fr.refl nob w0) els).mono ?_
  rintro e w1 ⟨rfl, f1⟩
  have HA := hide (ahead_new (w0 := w0) w1 [vd els] f1 (Fr.refl _ _) (by simp) none 0 [] (.inl rfl) (fun _ => ⟨rfl, rfl⟩) 1 (by simp) (by simp))
  clear f1 p2
  go_wp2_with fail
  refine HA.out.mono ?_
  rintro e w2 ⟨g2, c2, rfl, o2, hg2, f2⟩
  have f3 : Fr nob w0 (w2.alloc (.cells #[.slice (some ⟨g2, 0, none⟩) 1 c2] 30)) := f2.alloc _
  have O3 : Hid (Own (w2.alloc (.cells #[.slice (some ⟨g2, 0, none⟩) 1 c2] 30)) 29 4 (some ⟨g2, 0, none⟩) 1 c2 (flat [vd els])) := own_fr (o2 : Own w2 29 4 (some ⟨g2, 0, none⟩) 1 c2 (flat [vd els])) ((Fr.refl nob w2).alloc _) (fun _ _ h => h)
  have KL3 : Hid ((w2.alloc (.cells #[.slice (some ⟨g2, 0, none⟩) 1 c2] 30)).heap[w2.heap.size]? = some (.cells #[.slice (some ⟨g2, 0, none⟩) 1 c2] 30 (0, 0))) := heap_alloc_new w2 _
  have x1 : (w2.alloc (.cells #[.slice (some ⟨g2, 0, none⟩) 1 c2] 30)).cell? ⟨w.heap.size, 1, none⟩ = some (.slice ao rs.length cap) := cell_blk (f3.heap KP.out (fun h => h)) rfl
  have F3 := hide f3
  have hs2 := f2.size
  have S2 : Hid (w0.heap.size ≤ w2.heap.size ∧ w0.heap.size ≤ g2 ∧ g2 < w2.heap.size) := hide ⟨hs2, hg2, own_lt o2 rfl⟩
  clear o2 f2 f3 HA hs2 hg2
  go_wp2_with fail
  refine (backR_new _ ao rs.length cap).mono ?_
  rintro e w4 ⟨rfl, hw4⟩
  obtain ⟨bl, hbl⟩ : ∃ bl, bl = w2.heap.size := ⟨_, rfl⟩
  rw [World.size_alloc, ← hbl]
  have f34 : Fr nob (w2.alloc (.cells #[.slice (some ⟨g2, 0, none⟩) 1 c2] 30)) w4 := by rw [hw4]; exact (Fr.refl _ _).alloc _
  have KL4 := f34.heap KL3.out (fun h => h)
  rw [← hbl] at KL4
  have O4 := own_fr O3.out f34 (fun _ _ h => h)
  have F4 := F0.out.trans (F3.out.trans f34)
  have KP4 := f34.heap (F3.out.heap KP.out (fun h => h)) (fun h => h)
  have cBs : w4.cell? ⟨bl + 1, 0, none⟩ = some (.slice ao rs.length cap) := by
    rw [hw4]
    have h := heap_alloc_new (w2.alloc (.cells #[.slice (some ⟨g2, 0, none⟩) 1 c2] 30)) (.cells #[.slice ao rs.length cap] 36)
    rw [World.size_alloc, ← hbl] at h
    exact cell_blk h rfl
  have S4 : w4.heap.size = bl + 2 := by rw [hw4, World.size_alloc, World.size_alloc, hbl]
  have hS2 : w.heap.size + 1 ≤ bl ∧ w.heap.size + 1 ≤ g2 ∧ g2 < bl := by have := S2.out; have := S0.out; omega
  have hV4 := HV.out.fr0 F4
  have hbb : ∀ b off, ao = some ⟨b, off, none⟩ → rs ≠ [] → b ≠ bl := fun b off e hne eb => by
    have h0 : 0 < rs.length := List.length_pos_iff.2 hne
    obtain ⟨b', off', e', hc⟩ := view_at (f := Rul.cs) (n := 3) (fun _ => rfl) (by decide) HV.out.v h0
    rw [e] at e'
    cases e'
    have := World.block_lt_of_cell? w _ (hc 0 _ (by decide) rfl)
    simp only at this
    omega
  have HVT : Hid (∀ W, Kc w.heap.size bl w4 W → ∀ x ∈ rs, View W x.ta (tcs x.ts)) := fun W hk x hx => by
    have h := HV.out.t x hx
    rcases h with h | ⟨b, off, h1, h2⟩
    · exact .inl h
    by_cases hne : x.ts = []
    · exact .inl (by rw [hne]; rfl)
    · refine hk.view (hV4.t x hx) (fun b' off' e' eb => ?_)
      rw [h1] at e'
      cases e'
      have h3 : (tcs x.ts)[0]? ≠ none := by
        cases hx : x.ts with
        | nil => exact absurd hx hne
        | cons t r => simp [tcs, cat, Tst.cs]
      obtain ⟨v, hv⟩ := Option.ne_none_iff_exists'.1 h3
      have := World.block_lt_of_cell? w _ (h2 0 v hv)
      simp only at this
      omega
  clear hw4 hbl f34 KL3 O3 F3 KP x1 S2 S0 F0
  go_wp2_with fail
  have hLB : LB w.heap.size bl w4 (coQ rs els []) := ⟨g2, c2, KL4, O4, by omega⟩
  have hKc := Kc.refl w.heap.size bl w4
  refine (wpIn_wide (n := 9)).1 ?_
  refine wpIn_rangeFunc_ownH (F := Fence.wide) rfl (by omega) (gf := 112) (lb := #[.pointer (some ⟨bl + 1, 0, none⟩)]) rfl trivial (enters_of Tryz.func112 (by kernel_rfl) rfl)
    (backR_stops 8 (by omega) (bl + 1) w.heap.size bl ao cap rs (by omega) w4 (by omega) hbb cBs hV4.v) (fun h k => h.trans k) (fun W l o o' hl h1 h2 h3 => Kc.putObj W l o o' (by omega) h1 h2) (Below.refl _ _) (fun _ => rfl)
    (fun pre W => LB w.heap.size bl W (coQ rs els pre) ∧ Kc w.heap.size bl w4 W)
    (fun _ _ _ => False)
    (fun s A B row hs hg hr => ⟨hs.1.grown hg hr, hs.2.grown hg (by omega) hr⟩)
    (fun _ _ _ _ _ hs _ _ => hs)
    ⟨hLB, hKc⟩
    (fun x a' W => ∃ Bx, Bx ≠ bl ∧ W.heap[Bx]? = some (.cells #[.int .u32 (rs[x]).number, .slice (rs[x]).ta (rs[x]).ts.length (rs[x]).cap, .int .u32 (rs[x]).verdict] 35 (0, 0)) ∧
      a' = { tmps := #[.agg #[.int .u32 arch, .slice ao rs.length cap, .int .u32 els, .int .u32 oth], .pointer (some ⟨w.heap.size, 0, none⟩), .slice none 0 0, .int .i64 0, .pointer (some ⟨bl, 0, none⟩), undef, .pointer (some ⟨Bx, 0, none⟩),
        .pointer (some ⟨w.heap.size, 1, none⟩), .slice ao rs.length cap, .bool true, .bool false, .pointer (some ⟨w.heap.size, 2, none⟩), .int .u32 els, insV (vd els), .slice (some ⟨w1.heap.size, 0, none⟩) 1 1, .slice (some ⟨g2, 0, none⟩) 1 c2, .pointer (some ⟨w.heap.size, 1, none⟩), .slice ao rs.length cap, .func (.func 112) #[] #[.pointer (some ⟨bl + 1, 0, none⟩)],
        .int .i64 (x.val : Int), .agg #[.int .u32 (rs[x]).number, .slice (rs[x]).ta (rs[x]).ts.length (rs[x]).cap, .int .u32 (rs[x]).verdict], undef, undef, undef, undef, undef, undef, undef, undef, undef, undef, undef, undef, undef, undef, undef, undef, undef], defers := [] })
    (fun x a' _ X Y row hs hg hr => by obtain ⟨Bx, h1, h2, h3⟩ := hs; exact ⟨Bx, h1, kept_cells hg hr h2 rfl, h3⟩)
    ?assign ?body ?done ?stop
  case assign =>
    rintro l pre x W K ⟨hi, hk⟩ hK
    have hlt : bl < W.heap.size := by obtain ⟨_, _, h, _⟩ := hi; exact (Array.getElem?_eq_some_iff.1 h).1
    gi_wp2
    exact hK _ _ ((KeepsOthers.alloc _ _).from _) (Kc.ofFr ((Fr.refl _ W).alloc _)) ⟨hi.fr ((Fr.refl _ W).alloc _), hk.trans (Kc.ofFr ((Fr.refl _ W).alloc _))⟩ ⟨W.heap.size, by omega, heap_alloc_new W _, rfl⟩
  case body =>
    rintro l pre x a' W hl2 ⟨r, hr⟩ ⟨⟨g, c, kL, oL, hg⟩, hk⟩ ⟨Bx, hBx, kX, rfl⟩ hlt
    have hRl := coQ_len rs els pre (fun x hx => (H6.out x hx).1)
    have hxm : rs[x] ∈ rs := List.getElem_mem _
    have hX6 := H6.out rs[x] hxm
    have hXr := HR.out rs[x] hxm
    have hXv := HVT.out W hk rs[x] hxm
    obtain ⟨R', hR'⟩ : ∃ R', R' = coQ rs els (pre ++ [x]) := ⟨_, rfl⟩
    have hRe := hR'.trans (coQ_snoc rs els pre x)
    have hPost : ∀ W', LB w.heap.size bl W' R' → Fr (fun k => k = bl) W W' → KeepsFrom w4.heap.size W W' ∧ Kc w.heap.size bl W W' ∧ LB w.heap.size bl W' (coQ rs els (pre ++ [x])) ∧ Kc w.heap.size bl w4 W' := fun W' h1 h2 =>
      ⟨keepsFrom_fr h2 (fun k e => ⟨_, by subst e; exact kL, rfl⟩), Kc.ofFr h2, by rw [← hR']; exact h1, hk.trans (Kc.ofFr h2)⟩
    generalize coQ rs els pre = R at *
    generalize rs[x] = t at *
    obtain ⟨nx, R0, hR0⟩ : ∃ nx R0, R = nx :: R0 := by
      cases R with
      | nil => simp at hRl
      | cons a b => exact ⟨a, b, rfl⟩
    have hnx : R.headD zI = nx := by rw [hR0]; rfl
    rw [hnx] at hRe
    obtain ⟨n, hn⟩ : ∃ n, n = R.length := ⟨_, rfl⟩
    rw [← hn] at kL oL hRl
    have hn1 : (0 : Int) < (n : Int) := by omega
    have hcx : ∀ j v, nx.cs[j]? = some v → W.cell? ⟨g, j, none⟩ = some v := fun j v hj => own_get oL (by
      rw [hR0]
      simp only [flat]
      rw [List.getElem?_append_left (by have := (List.getElem?_eq_some_iff.1 hj).1; exact this)]
      exact hj)
    have i0 : W.cell? ⟨g, 0, none⟩ = some (.int .u16 nx.code) := hcx 0 _ rfl
    have i1 : W.cell? ⟨g, 1, none⟩ = some (.int .u8 nx.jt) := hcx 1 _ rfl
    have i2 : W.cell? ⟨g, 2, none⟩ = some (.int .u8 nx.jf) := hcx 2 _ rfl
    have i3 : W.cell? ⟨g, 3, none⟩ = some (.int .u32 nx.k) := hcx 3 _ rfl
    obtain ⟨T, hT⟩ : ∃ T, T = coR (rd t) nx := ⟨_, rfl⟩
    have hTl := coR_len (rd t) nx
    rw [← hT] at hRe hTl
    have hTl2 : T.length ≤ 10000 := by have := hX6.1; simp only [rd] at hTl; omega
    have hTne : T ≠ [] := fun e => by rw [e] at hTl; simp at hTl
    have HT : Hid (∀ wx, Fr nob W wx → Calls Tryz.prog 67 #[.agg #[.int .u32 t.number, .slice t.ta t.ts.length t.cap, .int .u32 t.verdict], .agg #[.int .u16 nx.code, .int .u8 nx.jt, .int .u8 nx.jf, .int .u32 nx.k]] wx fun e w' => ∃ g c, e = .returned (.slice (some ⟨g, 0, none⟩) T.length c) ∧ Own w' 29 4 (some ⟨g, 0, none⟩) T.length c (flat T) ∧ Fr nob W w') := fun wx f => by
      rw [hT]
      exact (rule_any wx t.number t.verdict t.ta t.cap t.ts nx (hXv.fr0 f) hX6.1 (fun y hy => ⟨hXr y hy, hX6.2 y hy⟩)).mono fun e w' ⟨g, c, he, ho, _, h4⟩ => ⟨g, c, he, ho, f.trans h4⟩
    have HA : Hid (∀ g1 c1 wx, Fr nob W wx → Own wx 29 4 (some ⟨g1, 0, none⟩) T.length c1 (flat T) → Calls Tryz.prog 64 #[.slice (some ⟨g, 0, none⟩) n c, .slice (some ⟨g1, 0, none⟩) T.length c1] wx fun e w' => ∃ g' c', e = .returned (.slice (some ⟨g', 0, none⟩) R'.length c') ∧ Own w' 29 4 (some ⟨g', 0, none⟩) R'.length c' (flat R') ∧ W.heap.size ≤ g' ∧ Fr nob W w') := fun g1 c1 wx f o1 =>
      ahead_own f g1 c1 T _ rfl o1 hTne (some ⟨g, 0, none⟩) c R n hn ((own_v oL).fr0 f) (by rw [hR0]; simp) hTl2 (by omega) R'.length (by rw [hRe]) R' hRe
    have hmx : Tryz.prog.follows .mixedOrders = true := by kernel_rfl
    have hbW : bl < W.heap.size := (Array.getElem?_eq_some_iff.1 kL).1
    have cl : W.cell? ⟨bl, 0, none⟩ = some (.slice (some ⟨g, 0, none⟩) n c) := cell_blk kL rfl
    have zl : W.frozen? ⟨bl, 0, none⟩ = false := frozen_blk kL
    have b0 : W.cell? ⟨Bx, 0, none⟩ = some (.int .u32 t.number) := cell_blk kX rfl
    have b1 : W.cell? ⟨Bx, 1, none⟩ = some (.slice t.ta t.ts.length t.cap) := cell_blk kX rfl
    have b2 : W.cell? ⟨Bx, 2, none⟩ = some (.int .u32 t.verdict) := cell_blk kX rfl
    have KLH := hide kL
    have HP := hide hPost
    have HN : Hid (w.heap.size ≤ W.heap.size) := hide (by have := hk.size; omega)
    clear hRe hR' hT hPost kL oL kX hr hl2 hlt hRl hk hn hg hnx hR0 hcx hX6 hXr hXv hxm hTl hTl2 hTne hLB hKc cBs hV4 hbb KP4 O4 KL4
    gi_wp2
    gi_region_with_o (first
      | (refine ⟨trivial, ?_⟩; gi_at_call 67; refine (CallsIn.inRound l (callsIn_wide.2 (HT.out _ (by exact (Fr.refl nob W).like rfl rfl rfl rfl)))).mono ?_; rintro e w1 ⟨g1, c1, rfl, o1, f1⟩; have dl : w1.cell? ⟨bl, 0, none⟩ = some (.slice (some ⟨g, 0, none⟩) n c) := frC f1 cl; have O1 := hide o1; have F1 := hide f1; clear o1 f1)
      | (refine ⟨trivial, ?_⟩; gi_at_call 64; refine (CallsIn.inRound l (callsIn_wide.2 (HA.out g1 c1 _ (by exact F1.out.like rfl rfl rfl rfl) (by exact O1.out)))).mono ?_; rintro e w5 ⟨g5, c5, rfl, o5, hg5, f5⟩; have zl5 : w5.frozen? ⟨bl, 0, none⟩ = false := frozen_blk (f5.heap KLH.out (fun h => h)); have cl5 : w5.cell? ⟨bl, 0, none⟩ = some (.slice (some ⟨g, 0, none⟩) n c) := frC f5 cl; have O5 := hide o5; have F5 := hide f5; have HG5 := hide hg5; clear o5 f5 hg5))
    all_goals (
      gi_wp2
      exact HP.out _ (LB.store KLH.out F5.out O5.out HG5.out HN.out).1 (LB.store KLH.out F5.out O5.out HG5.out HN.out).2)
  case done =>
    rintro D xs W hD rfl ⟨⟨g, c, kL, oL, hg⟩, hk⟩ hK
    rw [coQ_all] at kL oL
    have kP := hk.same _ _ KP4 (by omega) (.inr rfl)
    have hlen := coRs_len els (rs.map rd) (fun x hx => by
      simp only [List.mem_map] at hx
      obtain ⟨y, hy, rfl⟩ := hx
      exact (H6.out y hy).1)
    obtain ⟨R, hR⟩ : ∃ R, R = coRs els (rs.map rd) := ⟨_, rfl⟩
    obtain ⟨n, hn⟩ : ∃ n, n = R.length := ⟨_, rfl⟩
    rw [← hR] at kL oL hlen
    rw [← hn] at kL oL hlen
    have cl : W.cell? ⟨bl, 0, none⟩ = some (.slice (some ⟨g, 0, none⟩) n c) := cell_blk kL rfl
    have p0 : W.cell? ⟨w.heap.size, 0, none⟩ = some (.int .u32 arch) := cell_blk kP rfl
    have p3 : W.cell? ⟨w.heap.size, 3, none⟩ = some (.int .u32 oth) := cell_blk kP rfl
    have hcr : coP arch els oth (rs.map rd) = [ld 4, br 21 arch 1 0, vd oth] ++ R := by rw [hR]; rfl
    have hcl : (coP arch els oth (rs.map rd)).length = 3 + n := by rw [hcr, List.length_append, hn]; rfl
    have HCL := hide hcl
    have HA : Hid (∀ wb wx, Fr nob W wb → Fr nob (wb.alloc (.cells #[.int .u16 32, .int .u8 0, .int .u8 0, .int .u32 4, .int .u16 21, .int .u8 1, .int .u8 0, .int .u32 arch, .int .u16 6, .int .u8 0, .int .u8 0, .int .u32 oth] 29)) wx → Calls Tryz.prog 64 #[.slice (some ⟨g, 0, none⟩) n c, .slice (some ⟨wb.heap.size, 0, none⟩) 3 3] wx fun e w' => ∃ g' c', e = .returned (.slice (some ⟨g', 0, none⟩) (3 + n) c') ∧ Own w' 29 4 (some ⟨g', 0, none⟩) (3 + n) c' (flat (coP arch els oth (rs.map rd))) ∧ W.heap.size ≤ g' ∧ Fr nob W w') := fun wb wx h1 h2 => by
      have h := ahead_new (w0 := W) wb [ld 4, br 21 arch 1 0, vd oth] h1 (by exact h2) (by simp) (some ⟨g, 0, none⟩) c R (own_v oL) (fun e => by rw [e] at hn; simp at hn; omega) 3 (by simp) (by have := hlen.2; rw [List.length_map] at this; omega)
      rw [← hcr, ← hn] at h
      exact h
    have FW : Hid (Fr nob w W) := Kc.fr F4 hk (by omega)
    have HKD := hide hK
    clear hn kL oL kP hK hk hlen hLB hKc cBs hV4 hbb KP4 O4 KL4 hcr hcl hR
    go_wp2_with fail
    go_region_held3 (fun w' => w'.cell? ⟨bl, 0, none⟩ = some (.slice (some ⟨g, 0, none⟩) n c) ∧ w'.cell? ⟨w.heap.size, 0, none⟩ = some (.int .u32 arch) ∧ w'.cell? ⟨w.heap.size, 3, none⟩ = some (.int .u32 oth))
      (first | exact ⟨cl, p0, p3⟩ | exact ⟨frC fa cl, frC fa p0, frC fa p3⟩ | exact ⟨frC fb cl, frC fb p0, frC fb p3⟩ | exact ⟨frC fc cl, frC fc p0, frC fc p3⟩ | exact ⟨frC (fc.alloc _) cl, frC (fc.alloc _) p0, frC (fc.alloc _) p3⟩ | exact ⟨frC f9 cl, frC f9 p0, frC f9 p3⟩)
      (first
        | (go_at_call 68; refine (load_fr (w0 := W) (by exact (Fr.refl nob W).like rfl rfl rfl rfl) 4).mono ?_; rintro e wa ⟨rfl, fa⟩)
        | (go_at_call 69; refine (branch_fr (w0 := W) (by exact fa.like rfl rfl rfl rfl) 21 arch 1 0 (by omega) (by omega)).mono ?_; rintro e wb ⟨rfl, fb⟩)
        | (go_at_call 65; refine (verdict_fr (w0 := W) (by exact fb.like rfl rfl rfl rfl) oth).mono ?_; rintro e wc ⟨rfl, fc⟩)
        | (go_at_call 64; refine (HA.out wc _ fc (by exact (Fr.refl nob _).like rfl rfl rfl rfl)).mono ?_; rintro e w9 ⟨g9, c9, rfl, o9, hg9, f9⟩))
    have O9 := hide o9
    have F9 := hide (FW.out.trans f9)
    have hs := FW.out.size
    have K9 := f9.heap HKD.out (fun h => h)
    clear o9 f9 fa fb fc
    go_wp2_with fail
    refine ⟨by simp, .inl ⟨_, _, rfl, run_takeDeferred K9, ?_⟩⟩
    exact ⟨_, results_tmp2 rfl _ _ _, g9, c9, by rw [HCL.out]; rfl, by rw [HCL.out]; exact own_putD K9 rfl O9.out, by omega, fr_put F9.out D _ (by have := F4.size; omega)⟩
  case stop =>
    rintro D c pre W _ _ h _
    exact h.elim
end Go.Proofs.YtjgcfffepkmojabGreat

namespace Go.Proofs.YtjgcfffepkmojabGreat
open Go.RowKit Go.Shelf
set_option linter.unusedVariables false
attribute [local go_sem] Oper.semAt_some

set_option maxRecDepth 100000 in
set_option maxHeartbeats 4000000 in
theorem copol_bad (w : World) (arch els oth : Int) (ao : Option Addr) (cap : Nat) (rs : List Rul) (hv : RV w ao rs) (hmay : mayA rs = false) (hl : rs.length ≤ 9223372036854775807) (ht : ∀ x ∈ rs, x.ts.length ≤ 9223372036854775807) :
    Calls Tryz.prog 51 #[.agg #[.int .u32 arch, .slice ao rs.length cap, .int .u32 els, .int .u32 oth]] w fun e w' => e = .returned (.tuple #[.slice none 0 0, .int .i64 11]) ∧ Fr nob w w' := by
  have HM := hide (mayBe_any (w.alloc (.cells #[.int .u32 arch, .slice ao rs.length cap, .int .u32 els, .int .u32 oth] 38)) ao cap rs (hv.fr0 ((Fr.refl _ w).alloc _)) hl ht)
  rw [hmay] at HM
  clear hv ht hmay
  refine (callsIn_wide (n := 9)).1 ?_
  refine callsIn_of_wp_marks Tryz.func51 rfl trivial ?_ rfl
  simp only [Tryz.ntmps51, List.size_toArray, List.length_cons, List.length_nil, Nat.reduceAdd, Nat.reduceSub, Array.replicate_succ, Array.replicate_zero, List.push_toArray, List.append_toArray, List.nil_append, List.cons_append]
  rw [wpIn_wide]
  go_wp2_with fail
  refine HM.out.mono ?_
  rintro e w0 ⟨rfl, f0⟩
  have F0 : Hid (Fr nob w w0) := ((Fr.refl _ w).alloc _).trans f0
  clear f0 HM
  go_wp2_with fail
  exact ⟨_, results_tmp2 rfl _ _ _, rfl, F0.out⟩
theorem copol_any (w : World) (arch els oth : Int) (ao : Option Addr) (cap : Nat) (rs : List Rul) (hv : RV w ao rs) (hl : rs.length ≤ 9223372036854775807) (ht : ∀ x ∈ rs, x.ts.length ≤ 9223372036854775807) (hr : ∀ x ∈ rs, ∀ t ∈ x.ts, t.rng) :
    Calls Tryz.prog 51 #[.agg #[.int .u32 arch, .slice ao rs.length cap, .int .u32 els, .int .u32 oth]] w fun e w' => ∃ a c, e = .returned (.tuple #[.slice a (co arch els oth (rs.map rd)).1.length c, .int .i64 (co arch els oth (rs.map rd)).2]) ∧ Own w' 29 4 a (co arch els oth (rs.map rd)).1.length c (flat (co arch els oth (rs.map rd)).1) ∧ (∀ x, bk (.slice a (co arch els oth (rs.map rd)).1.length c) x → w.heap.size ≤ x) ∧ Fr nob w w' := by
  unfold co
  rw [mayA_d]
  cases hm : mayA rs with
  | true =>
    rw [if_pos rfl]
    exact (copol_good w arch els oth ao cap rs hv hm hr).mono fun e w' ⟨g, c, h1, h2, h3, h4⟩ => ⟨some ⟨g, 0, none⟩, c, h1, h2, fun x hx => by simp only [bk, Value.ownBlock, Option.some.injEq] at hx; omega, h4⟩
  | false =>
    rw [if_neg (by decide)]
    exact (copol_bad w arch els oth ao cap rs hv hm hl ht).mono fun e w' ⟨h1, h2⟩ => ⟨none, 0, h1, World.ownsRow_nil _ _ _ _, fun x hx => by simp [bk, Value.ownBlock] at hx, h2⟩
set_option maxRecDepth 100000 in
set_option maxHeartbeats 4000000 in
theorem compile_any (w : World) (arch els oth : Int) (ao : Option Addr) (cap : Nat) (rs : List Rul) (hv : RV w ao rs) (hl : rs.length ≤ 9223372036854775807) (ht : ∀ x ∈ rs, x.ts.length ≤ 9223372036854775807) (hr : ∀ x ∈ rs, ∀ t ∈ x.ts, t.rng) :
    Calls Tryz.prog 31 #[.agg #[.int .u32 arch, .slice ao rs.length cap, .int .u32 els, .int .u32 oth]] w fun e w' => ∃ a c, e = .returned (.tuple #[.slice a (co arch els oth (rs.map rd)).1.length c, .int .i64 (co arch els oth (rs.map rd)).2]) ∧ Own w' 29 4 a (co arch els oth (rs.map rd)).1.length c (flat (co arch els oth (rs.map rd)).1) ∧ (∀ x, bk (.slice a (co arch els oth (rs.map rd)).1.length c) x → w.heap.size ≤ x) ∧ Fr nob w w' := by
  have HC := hide (copol_any (w.alloc (.cells #[.int .u32 arch, .slice ao rs.length cap, .int .u32 els, .int .u32 oth] 38)) arch els oth ao cap rs (hv.fr0 ((Fr.refl _ w).alloc _)) hl ht hr)
  generalize co arch els oth (rs.map rd) = C at *
  obtain ⟨L, er⟩ := C
  clear hv ht hr
  go_enter Tryz.func31, Tryz.ntmps31
  go_wp2_with fail
  refine HC.out.mono ?_
  rintro e w1 ⟨a, c, rfl, o1, hn, f1⟩
  have O1 := hide o1
  have HN := hide hn
  have F1 : Hid (Fr nob w w1) := ((Fr.refl _ w).alloc _).trans f1
  clear o1 hn f1 HC
  go_wp2
  go_ret2
  exact ⟨a, c, rfl, O1.out, fun x hx => by have := HN.out x hx; rw [World.size_alloc] at this; omega, F1.out⟩
#print axioms compile_any
end Go.Proofs.YtjgcfffepkmojabGreat
