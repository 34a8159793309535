import Derived.BigQuiet
import Derived.Test.YtjgcfffepkmojabGreatLPol
namespace Go.Proofs.YtjgcfffepkmojabGreat
open Go.RowKit
set_option linter.unusedVariables false

theorem lent_at (rs : List Rul) (gs : List Nat) (i : Nat) (hi : i < rs.length) (hg : gs.length = rs.length) : (lentL rs gs ++ List.replicate 8 zRul)[i]? = some (lentR rs[i] (gs[i]'(by omega))) := by
  rw [List.getElem?_append_left (by simp [lentL]; omega)]
  unfold lentL
  rw [List.getElem?_zipWith, List.getElem?_eq_getElem hi, List.getElem?_eq_getElem (show i < gs.length by omega)]
theorem lent_far (rs : List Rul) (gs : List Nat) (i : Nat) (h1 : rs.length ≤ i) (h2 : i < rs.length + 8) (hg : gs.length = rs.length) : (lentL rs gs ++ List.replicate 8 zRul)[i]? = some zRul := by
  rw [List.getElem?_append_right (by simp [lentL]; omega), List.getElem?_replicate, if_pos (by simp [lentL]; omega)]
theorem cat_at {α : Type} {f : α → List Value} {n : Nat} (hf : ∀ x, (f x).length = n) {l : List α} {k j : Nat} {x : α} {v : Value} (hk : l[k]? = some x) (hj : j < n) (hv : (f x)[j]? = some v) : (cat f l)[k * n + j]? = some v := by
  obtain ⟨h1, h2⟩ := List.getElem?_eq_some_iff.1 hk
  rw [cat_get hf l k j h1 hj, h2, hv]
theorem zt_at (ts : List Tst) (k : Nat) (h1 : ts.length ≤ k) (h2 : k < ts.length + 8) : (ts ++ List.replicate 8 zTst)[k]? = some zTst := by
  rw [List.getElem?_append_right h1, List.getElem?_replicate, if_pos (by omega)]

set_option maxRecDepth 100000 in
set_option maxHeartbeats 4000000 in
theorem unhurt_any (w0 w : World) (arch els oth : Int) (ao : Option Addr) (cap : Nat) (rs : List Rul) (hv : RV w ao rs) (hl : rs.length ≤ 10000000) (ht : ∀ x ∈ rs, x.ts.length ≤ 10000000) (R0 : Nat) (ta : Option Addr) (tc : Nat) (gs : List Nat) (ps : PS w0 w rs R0 rs.length ta tc gs) :
    Calls Tryz.prog 32 #[.agg #[.int .u32 arch, .slice ao rs.length cap, .int .u32 els, .int .u32 oth], .slice (some ⟨R0, 0, none⟩) (rs.length + 8) (rs.length + 8), .slice ta rs.length tc] w fun e w' => e = .returned (.bool true) ∧ Fr nob w w' := by
  have ka : (w.alloc (.cells #[.int .u32 arch, .slice ao rs.length cap, .int .u32 els, .int .u32 oth] 38)).heap[w.heap.size]? = some (.cells #[.int .u32 arch, .slice ao rs.length cap, .int .u32 els, .int .u32 oth] 38 (0, 0)) := heap_alloc_new w _
  have fa : Fr nob w (w.alloc (.cells #[.int .u32 arch, .slice ao rs.length cap, .int .u32 els, .int .u32 oth] 38)) := (Fr.refl _ w).alloc _
  have KA := hide ka
  have FA := hide fa
  have HV := hide hv
  have HT := hide ht
  have HPS := hide ps
  obtain ⟨D, hD⟩ : ∃ D, D = w.heap.size := ⟨_, rfl⟩
  have HD := hide hD
  clear ka fa hv ht ps
  go_enter Tryz.func32, Tryz.ntmps32
  go_wp2_with fail
  rw [← hD] at KA ⊢
  clear hD
  go_loopw [7] (fun y wr => ∃ i : Nat, i ≤ rs.length + 8 ∧ y = .int .i64 i ∧ wr.heap[D]? = some (.cells #[.int .u32 arch, .slice ao rs.length cap, .int .u32 els, .int .u32 oth] 38 (0, 0)) ∧ Fr nob w wr) (fun y _ => rs.length + 8 - (intOf y).toNat)
  case atStart => exact ⟨0, Nat.zero_le _, rfl, KA.out, FA.out⟩
  case round =>
    clear KA FA
    obtain ⟨i, hi, rfl, ka, f⟩ := hrel
    have p1 : wr.cell? ⟨D, 1, none⟩ = some (.slice ao rs.length cap) := cell_blk ka rfl
    have rO := own_fr HPS.out.rules f (fun _ _ h => h)
    rw [← cat_append, List.take_length, Nat.sub_self, Nat.zero_add] at rO
    by_cases hlt : i < rs.length + 8
    · have hli : (i : Int) < (rs.length : Int) + 8 := by omega
      by_cases hin : i < rs.length
      · have hlen := HPS.out.len
        have hgi : i < gs.length := by omega
        obtain ⟨x, hx⟩ : ∃ x, x = rs[i] := ⟨_, rfl⟩
        obtain ⟨g, hg⟩ : ∃ g, g = gs[i] := ⟨_, rfl⟩
        have hxm : x ∈ rs := by rw [hx]; exact List.getElem_mem hin
        have hm := HT.out x hxm
        have hlx := lent_at rs gs i hin hlen
        rw [← hx, ← hg] at hlx
        have z0 : wr.cell? ⟨R0, i * 3, none⟩ = some (.int .u32 x.number) := own_get rO (cat_at (f := Rul.cs) (n := 3) (fun _ => rfl) hlx (j := 0) (by decide) rfl)
        have z1 : wr.cell? ⟨R0, i * 3 + 1, none⟩ = some (.slice (some ⟨g, 0, none⟩) x.ts.length (x.ts.length + 8)) := own_get rO (cat_at (f := Rul.cs) (n := 3) (fun _ => rfl) hlx (j := 1) (by decide) rfl)
        have z2 : wr.cell? ⟨R0, i * 3 + 2, none⟩ = some (.int .u32 x.verdict) := own_get rO (cat_at (f := Rul.cs) (n := 3) (fun _ => rfl) hlx (j := 2) (by decide) rfl)
        obtain ⟨b, off, rfl, hc⟩ := view_at (f := Rul.cs) (n := 3) (fun _ => rfl) (by decide) (HV.out.fr0 f).v hin
        have v0 : wr.cell? ⟨b, off + i * 3, none⟩ = some (.int .u32 x.number) := hc 0 _ (by decide) (by rw [← hx]; rfl)
        have v1 : wr.cell? ⟨b, off + i * 3 + 1, none⟩ = some (.slice x.ta x.ts.length x.cap) := hc 1 _ (by decide) (by rw [← hx]; rfl)
        have v2 : wr.cell? ⟨b, off + i * 3 + 2, none⟩ = some (.int .u32 x.verdict) := hc 2 _ (by decide) (by rw [← hx]; rfl)
        have hbl : b < wr.heap.size := World.block_lt_of_cell? wr _ v0
        have hRl : R0 < wr.heap.size := World.block_lt_of_cell? wr _ z0
        have hDl : D < wr.heap.size := World.block_lt_of_cell? wr _ p1
        have lO := own_fr HPS.out.list f (fun _ _ h => h)
        obtain ⟨gl, rfl⟩ := own_some lO hin
        have l0 : wr.cell? ⟨gl, i, none⟩ = some (.slice (some ⟨g, 0, none⟩) (x.ts.length + 8) (x.ts.length + 8)) := own_get lO (by
          unfold tstsV
          rw [List.take_length, List.getElem?_zipWith, List.getElem?_eq_getElem hin, List.getElem?_eq_getElem hgi, ← hx, ← hg])
        have tO := own_fr (HPS.out.own i x g (by rw [hx]; exact List.getElem?_eq_getElem hin) (by rw [hg]; exact List.getElem?_eq_getElem hgi)) f (fun _ _ h => h)
        rw [← cat_append] at tO
        have hvx := (HV.out.t x hxm).fr0 f
        have hnge : ¬ rs.length ≤ i := by omega
        have hlt2 : i < rs.length + 8 := hlt
        have k2 : (wr.alloc (.cells #[.int .u32 x.number, .slice x.ta x.ts.length x.cap, .int .u32 x.verdict] 35)).heap[wr.heap.size]? = some (.cells #[.int .u32 x.number, .slice x.ta x.ts.length x.cap, .int .u32 x.verdict] 35 (0, 0)) := heap_alloc_new wr _
        have f2 : Fr nob wr (wr.alloc (.cells #[.int .u32 x.number, .slice x.ta x.ts.length x.cap, .int .u32 x.verdict] 35)) := (Fr.refl _ wr).alloc _
        have KK := hide k2
        have F2 := hide f2
        have TO := hide tO
        have HVX := hide hvx
        have KA := hide ka
        have FF := hide f
        clear rO hc hlx lO tO hvx ka f k2 f2 hx hg hxm hlen hgi
        go_upto_region 8 with fail
        obtain ⟨w2, hw2⟩ : ∃ w2, w2 = wr.alloc (.cells #[.int .u32 x.number, .slice x.ta x.ts.length x.cap, .int .u32 x.verdict] 35) := ⟨_, rfl⟩
        rw [← hw2] at KK F2 ⊢
        obtain ⟨M, hM⟩ : ∃ M, M = wr.heap.size := ⟨_, rfl⟩
        rw [← hM] at KK ⊢
        have Z0 := frc F2.out z0
        have Z1 := frc F2.out z1
        have Z2 := frc F2.out z2
        have L0 := frc F2.out l0
        have y0 : w2.cell? ⟨M, 0, none⟩ = some (.int .u32 x.number) := cell_blk KK.out rfl
        have y1 : w2.cell? ⟨M, 1, none⟩ = some (.slice x.ta x.ts.length x.cap) := cell_blk KK.out rfl
        have y2 : w2.cell? ⟨M, 2, none⟩ = some (.int .u32 x.verdict) := cell_blk KK.out rfl
        have TO2 := hide (own_fr TO.out F2.out (fun _ _ h => h))
        have HVX2 := hide (HVX.out.fr0 F2.out)
        have KA2 := hide (F2.out.heap KA.out (fun h => h))
        have FF2 := hide (FF.out.trans F2.out)
        clear hw2 hM z0 z1 z2 l0 v0 v1 v2 p1 hbl hRl hDl TO HVX KA FF F2
        go_quiet (fail)
        go_wp2_with fail
        go_loopw [9] (fun y wz => ∃ k : Nat, k ≤ x.ts.length + 8 ∧ y = .int .i64 k ∧ Fr nob w2 wz) (fun y _ => x.ts.length + 8 - (intOf y).toNat)
        case atStart => exact ⟨0, Nat.zero_le _, rfl, ⟨rfl, rfl, rfl, Nat.le_refl _, fun _ _ _ => rfl⟩⟩
        case round =>
          rename World => wz
          obtain ⟨k, hk, rfl, fz⟩ := hrel
          have L1 := frc fz L0
          have Y1 := frc fz y1
          by_cases hkl : k < x.ts.length + 8
          · have hkli : (k : Int) < (x.ts.length : Int) + 8 := by omega
            have tz := own_fr TO2.out fz (fun _ _ h => h)
            by_cases hkm : k < x.ts.length
            · obtain ⟨tb, toff, hta, hct⟩ := view_at (f := Tst.cs) (n := 4) (fun _ => rfl) (by decide) (HVX2.out.fr0 fz) hkm
              obtain ⟨t, htt⟩ : ∃ t, t = x.ts[k] := ⟨_, rfl⟩
              have hlt9 : (x.ts ++ List.replicate 8 zTst)[k]? = some t := by rw [List.getElem?_append_left hkm, List.getElem?_eq_getElem hkm, htt]
              have a0 : wz.cell? ⟨g, k * 4, none⟩ = some (.int .i64 t.arg) := own_get tz (cat_at (f := Tst.cs) (n := 4) (fun _ => rfl) hlt9 (j := 0) (by decide) rfl)
              have a1 : wz.cell? ⟨g, k * 4 + 1, none⟩ = some (.int .i64 t.how) := own_get tz (cat_at (f := Tst.cs) (n := 4) (fun _ => rfl) hlt9 (j := 1) (by decide) rfl)
              have a2 : wz.cell? ⟨g, k * 4 + 2, none⟩ = some (.int .u64 t.value) := own_get tz (cat_at (f := Tst.cs) (n := 4) (fun _ => rfl) hlt9 (j := 2) (by decide) rfl)
              have a3 : wz.cell? ⟨g, k * 4 + 3, none⟩ = some (.int .u64 t.mask) := own_get tz (cat_at (f := Tst.cs) (n := 4) (fun _ => rfl) hlt9 (j := 3) (by decide) rfl)
              have c0 : wz.cell? ⟨tb, toff + k * 4, none⟩ = some (.int .i64 t.arg) := hct 0 _ (by decide) (by rw [← htt]; rfl)
              have c1 : wz.cell? ⟨tb, toff + k * 4 + 1, none⟩ = some (.int .i64 t.how) := hct 1 _ (by decide) (by rw [← htt]; rfl)
              have c2 : wz.cell? ⟨tb, toff + k * 4 + 2, none⟩ = some (.int .u64 t.value) := hct 2 _ (by decide) (by rw [← htt]; rfl)
              have c3 : wz.cell? ⟨tb, toff + k * 4 + 3, none⟩ = some (.int .u64 t.mask) := hct 3 _ (by decide) (by rw [← htt]; rfl)
              have dg : decide (x.ts.length ≤ k) = false := by simp; omega
              have hkmi : (k : Int) < (x.ts.length : Int) := by omega
              rw [hta] at Y1
              have FZ := hide fz
              clear tz hct hlt9 htt fz hta
              go_wp2_with fail
              go_quiet (fail)
              go_wp2
              refine ⟨⟨k + 1, by omega, by go_num, FZ.out.drewN _⟩, ?_⟩
              simp [intOf]; omega
            · have hlt9 := zt_at x.ts k (by omega) hkl
              have a0 : wz.cell? ⟨g, k * 4, none⟩ = some (.int .i64 0) := own_get tz (cat_at (f := Tst.cs) (n := 4) (fun _ => rfl) hlt9 (j := 0) (by decide) rfl)
              have a1 : wz.cell? ⟨g, k * 4 + 1, none⟩ = some (.int .i64 0) := own_get tz (cat_at (f := Tst.cs) (n := 4) (fun _ => rfl) hlt9 (j := 1) (by decide) rfl)
              have a2 : wz.cell? ⟨g, k * 4 + 2, none⟩ = some (.int .u64 0) := own_get tz (cat_at (f := Tst.cs) (n := 4) (fun _ => rfl) hlt9 (j := 2) (by decide) rfl)
              have a3 : wz.cell? ⟨g, k * 4 + 3, none⟩ = some (.int .u64 0) := own_get tz (cat_at (f := Tst.cs) (n := 4) (fun _ => rfl) hlt9 (j := 3) (by decide) rfl)
              have dk : decide (k < x.ts.length) = false := by simp; omega
              have dg : decide (x.ts.length ≤ k) = true := by simp; omega
              have FZ := hide fz
              clear tz hlt9 fz hkm
              go_wp2_with fail
              go_quiet (fail)
              go_wp2
              refine ⟨⟨k + 1, by omega, by go_num, FZ.out.drewN _⟩, ?_⟩
              simp [intOf]; omega
          · have FZ := hide fz
            clear fz
            go_wp2
            refine ⟨⟨i + 1, by omega, by go_num, FZ.out.heap KA2.out (fun h => h), FF2.out.trans FZ.out⟩, ?_⟩
            simp [intOf]; omega
      · have hlx := lent_far rs gs i (by omega) hlt HPS.out.len
        have z0 : wr.cell? ⟨R0, i * 3, none⟩ = some (.int .u32 0) := own_get rO (cat_at (f := Rul.cs) (n := 3) (fun _ => rfl) hlx (j := 0) (by decide) rfl)
        have z1 : wr.cell? ⟨R0, i * 3 + 1, none⟩ = some (.slice none 0 0) := own_get rO (cat_at (f := Rul.cs) (n := 3) (fun _ => rfl) hlx (j := 1) (by decide) rfl)
        have z2 : wr.cell? ⟨R0, i * 3 + 2, none⟩ = some (.int .u32 0) := own_get rO (cat_at (f := Rul.cs) (n := 3) (fun _ => rfl) hlx (j := 2) (by decide) rfl)
        have hge : rs.length ≤ i := by omega
        have F := hide f
        have K := hide ka
        clear rO hlx f ka hin
        go_wp2
        refine ⟨⟨i + 1, by omega, by go_num, K.out, F.out⟩, ?_⟩
        simp [intOf]; omega
    · have F := hide f
      clear rO f ka
      go_wp2
      go_ret
      exact ⟨rfl, F.out⟩
#print axioms unhurt_any
end Go.Proofs.YtjgcfffepkmojabGreat
