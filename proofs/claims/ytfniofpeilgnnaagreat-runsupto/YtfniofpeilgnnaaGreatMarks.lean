import Derived.Test.YtfniofpeilgnnaaGreatBase
namespace Go.Proofs.YtfniofpeilgnnaaGreat
open Go.RowKit
set_option linter.unusedVariables false

theorem sign_any (m i : Int) (w : World) (h0 : 0 ≤ m) (h1 : m ≤ 1000000000) (h2 : 0 ≤ i) (h3 : i ≤ 1000000000) :
    Calls Tryz.prog 42 #[.int .i64 m, .int .i64 i] w fun e w' => e = .returned (.int .u8 (sgn m i)) ∧ w' = w := by
  go_enter Tryz.func42, Tryz.ntmps42
  go_wp2
  go_ret
  exact ⟨rfl, rfl⟩

set_option maxHeartbeats 4000000 in
theorem marks_any (hb : Nat) (m : Int) (w : World) (ab ai ar at_ : Option Addr) (nb cb ni ci nr cr nt ct : Nat) (xb xi xr xt : List Value)
    (hblk : w.heap[hb]? = some (.cells #[.slice ab nb cb, .slice ai ni ci, .slice ar nr cr, .slice at_ nt ct, .int .i64 m] 74 (0, 0)))
    (hob : Own w 5 1 ab nb cb xb) (hoi : Own w 29 4 ai ni ci xi) (hor : Own w 35 3 ar nr cr xr) (hot : Own w 95 4 at_ nt ct xt)
    (h0 : 0 ≤ m) (h1 : m ≤ 1000000000) (bb : nb ≤ 1000000000) (bi : ni ≤ 1000000000) (br : nr ≤ 1000000000) (bt : nt ≤ 1000000000) :
    Calls Tryz.prog 45 #[.pointer (some ⟨hb, 0, none⟩)] w fun e w' => e = .returned (.tuple #[]) ∧
      Own w' 5 1 ab nb cb (mB m nb) ∧ Own w' 29 4 ai ni ci (rep (mI m) ni) ∧ Own w' 35 3 ar nr cr (rep (mR m) nr) ∧ Own w' 95 4 at_ nt ct (rep (mT m) nt) ∧
      Fr (bk4 (.slice ab nb cb) (.slice ai ni ci) (.slice ar nr cr) (.slice at_ nt ct)) w w' := by
  go_enter Tryz.func45, Tryz.ntmps45
  go_wp2
  go_loopw [2] (fun i wr => ∃ k : Nat, k ≤ nb ∧ i = .int .i64 k ∧ Own wr 5 1 ab nb cb (mB m k ++ xb.drop k) ∧ Fr (bk (.slice ab nb cb)) w wr) (fun i _ => nb - (intOf i).toNat)
  case atStart => exact ⟨0, Nat.zero_le _, rfl, hob, Fr.refl _ _⟩
  case round =>
    obtain ⟨k, hk, rfl, hown, f1⟩ := hrel
    have hblk1 := f1.heap hblk (own_ne hob hblk (by decide))
    have c0 : wr.cell? ⟨hb, 0, none⟩ = some (.slice ab nb cb) := cell_blk hblk1 rfl
    by_cases hlt : k < nb
    · have c4 : wr.cell? ⟨hb, 4, none⟩ = some (.int .i64 m) := cell_blk hblk1 rfl
      obtain ⟨g, rfl⟩ := own_some hown hlt
      have hfz : wr.frozen? ⟨g, k, none⟩ = false := hown.frozenAt k
      have hl : (mB m k ++ xb.drop k).length = nb * 1 := own_len hown
      obtain ⟨u, hu⟩ : ∃ u, wr.cell? ⟨g, k, none⟩ = some u := ⟨_, own_cell hown k (by omega)⟩
      have o' := own_set1 (p := k) hown (by simp [mB_len] at hl ⊢; omega) (by simp [mB_len]) (.int .u8 (sgn m k))
      rw [mB_step] at o'
      clear hblk hblk1 hob hoi hor hot
      go_wp2
      go_region_with (go_at_call 42; refine (sign_any _ _ _ (by omega) (by omega) (by omega) (by omega)).mono ?_; rintro e w' ⟨rfl, rfl⟩)
      all_goals go_wp2
      all_goals go_roundw
      all_goals first
        | exact ⟨k + 1, by omega, by go_num, own_drew o', (f1.setCell (p := ⟨g, k, none⟩) (fun _ => by simp [bk, Value.ownBlock]) _).drew⟩
        | (simp [intOf]; omega)
    · have hkn : k = nb := by omega
      subst hkn
      have o1 : Own wr 5 1 ab k cb (mB m k) := by simpa [List.drop_of_length_le (show xb.length ≤ k by have := own_len hob; omega)] using hown
      have oi1 : Own wr 29 4 ai ni ci xi := own_fr hoi f1 (fun j hj => own_apart hoi hob (by decide) j hj)
      have or1 : Own wr 35 3 ar nr cr xr := own_fr hor f1 (fun j hj => own_apart hor hob (by decide) j hj)
      have ot1 : Own wr 95 4 at_ nt ct xt := own_fr hot f1 (fun j hj => own_apart hot hob (by decide) j hj)
      clear hown hob hoi hor hot hblk
      go_wp2
      go_loopw [3] (fun i wz => ∃ j : Nat, j ≤ ni ∧ i = .int .i64 j ∧ Own wz 29 4 ai ni ci (rep (mI m) j ++ xi.drop (j * 4)) ∧ Fr (bk (.slice ai ni ci)) wr wz) (fun i _ => ni - (intOf i).toNat)
      case atStart => exact ⟨0, Nat.zero_le _, rfl, oi1, Fr.refl _ _⟩
      case round =>
        obtain ⟨j, hj, rfl, hown2, f2⟩ := hrel
        have hblk2 := f2.heap hblk1 (own_ne oi1 hblk1 (by decide))
        have c1 : wr.cell? ⟨hb, 1, none⟩ = some (.slice ai ni ci) := cell_blk hblk2 rfl
        by_cases hlt2 : j < ni
        · have c4 : wr.cell? ⟨hb, 4, none⟩ = some (.int .i64 m) := cell_blk hblk2 rfl
          obtain ⟨g, rfl⟩ := own_some hown2 hlt2
          have hl : (rep (mI m) j ++ xi.drop (j * 4)).length = ni * 4 := own_len hown2
          have hfz : ∀ z, wr.frozen? ⟨g, z, none⟩ = false := fun z => hown2.frozenAt z
          obtain ⟨u0, hu0⟩ : ∃ u, wr.cell? ⟨g, j * 4, none⟩ = some u := ⟨_, own_cell hown2 _ (by omega)⟩
          obtain ⟨u1, hu1⟩ : ∃ u, wr.cell? ⟨g, j * 4 + 1, none⟩ = some u := ⟨_, own_cell hown2 _ (by omega)⟩
          obtain ⟨u2, hu2⟩ : ∃ u, wr.cell? ⟨g, j * 4 + 2, none⟩ = some u := ⟨_, own_cell hown2 _ (by omega)⟩
          obtain ⟨u3, hu3⟩ : ∃ u, wr.cell? ⟨g, j * 4 + 3, none⟩ = some u := ⟨_, own_cell hown2 _ (by omega)⟩
          have hrl : (rep (mI m) j).length = j * 4 := rep_len _ _
          have o' := own_set4 (p := j * 4) (q := j * 4 + 1) (r := j * 4 + 2) (t := j * 4 + 3) hown2 (by simp only [List.length_append] at hl; omega) (by omega) (by omega) (by omega) (by omega) (.int .u16 7777) (.int .u8 0) (.int .u8 0) (.int .u32 m)
          rw [show [Value.int .u16 7777, Value.int .u8 0, Value.int .u8 0, Value.int .u32 m] = mI m from rfl, rep_step _ _ _ 4 rfl] at o'
          have hin : (bk (.slice (some ⟨g, 0, none⟩) ni ci)) g := by simp [bk, Value.ownBlock]
          have f' := ((((f2.setCell (p := ⟨g, j * 4, none⟩) (fun _ => hin) (.int .u16 7777)).setCell (p := ⟨g, j * 4 + 1, none⟩) (fun _ => hin) (.int .u8 0)).setCell (p := ⟨g, j * 4 + 2, none⟩) (fun _ => hin) (.int .u8 0)).setCell (p := ⟨g, j * 4 + 3, none⟩) (fun _ => hin) (.int .u32 m)).drew
          clear hblk1 hblk2 c0 o1 oi1 or1 ot1 f1 f2 hrl hl hin
          go_wp2
          go_region
          all_goals go_wp2
          all_goals go_roundw
          all_goals first
            | exact ⟨j + 1, by omega, by go_num, own_drew o', f'⟩
            | (simp [intOf]; omega)
        · have hkn2 : j = ni := by omega
          subst hkn2
          have o2 : Own wr 29 4 ai j ci (rep (mI m) j) := by simpa [List.drop_of_length_le (show xi.length ≤ j * 4 by have := own_len oi1; omega)] using hown2
          have p2 : Own wr 5 1 ab k cb (mB m k) := own_fr o1 f2 (fun z hz => own_apart o1 oi1 (by decide) z hz)
          have or2 : Own wr 35 3 ar nr cr xr := own_fr or1 f2 (fun z hz => own_apart or1 oi1 (by decide) z hz)
          have ot2 : Own wr 95 4 at_ nt ct xt := own_fr ot1 f2 (fun z hz => own_apart ot1 oi1 (by decide) z hz)
          have F2 : Fr (bk4 (.slice ab k cb) (.slice ai j ci) (.slice ar nr cr) (.slice at_ nt ct)) w wr :=
            (f1.mono (fun z _ hz => Or.inl hz)).step f2 (fun z _ hz => Or.inr (Or.inl hz))
          clear hown2 o1 oi1 or1 ot1 f1 f2 c0 hblk1
          go_wp2
          go_loopw [4] (fun i wz => ∃ q : Nat, q ≤ nr ∧ i = .int .i64 q ∧ Own wz 35 3 ar nr cr (rep (mR m) q ++ xr.drop (q * 3)) ∧ Fr (bk (.slice ar nr cr)) wr wz) (fun i _ => nr - (intOf i).toNat)
          case atStart => exact ⟨0, Nat.zero_le _, rfl, or2, Fr.refl _ _⟩
          case round =>
            obtain ⟨q, hq, rfl, hown3, f3⟩ := hrel
            have hblk3 := f3.heap hblk2 (own_ne or2 hblk2 (by decide))
            have c2 : wr.cell? ⟨hb, 2, none⟩ = some (.slice ar nr cr) := cell_blk hblk3 rfl
            by_cases hlt3 : q < nr
            · have c4 : wr.cell? ⟨hb, 4, none⟩ = some (.int .i64 m) := cell_blk hblk3 rfl
              obtain ⟨g, rfl⟩ := own_some hown3 hlt3
              have hl : (rep (mR m) q ++ xr.drop (q * 3)).length = nr * 3 := own_len hown3
              have hfz : ∀ z, wr.frozen? ⟨g, z, none⟩ = false := fun z => hown3.frozenAt z
              obtain ⟨u0, hu0⟩ : ∃ u, wr.cell? ⟨g, q * 3, none⟩ = some u := ⟨_, own_cell hown3 _ (by omega)⟩
              obtain ⟨u1, hu1⟩ : ∃ u, wr.cell? ⟨g, q * 3 + 1, none⟩ = some u := ⟨_, own_cell hown3 _ (by omega)⟩
              obtain ⟨u2, hu2⟩ : ∃ u, wr.cell? ⟨g, q * 3 + 2, none⟩ = some u := ⟨_, own_cell hown3 _ (by omega)⟩
              have hrl : (rep (mR m) q).length = q * 3 := rep_len _ _
              have o' := own_set3 (p := q * 3) (q := q * 3 + 1) (r := q * 3 + 2) hown3 (by simp only [List.length_append] at hl; omega) (by omega) (by omega) (by omega) (.int .u32 m) (.slice none 0 0) (.int .u32 0)
              rw [show [Value.int .u32 m, Value.slice none 0 0, Value.int .u32 0] = mR m from rfl, rep_step _ _ _ 3 rfl] at o'
              have hin : (bk (.slice (some ⟨g, 0, none⟩) nr cr)) g := by simp [bk, Value.ownBlock]
              have f' := (((f3.setCell (p := ⟨g, q * 3, none⟩) (fun _ => hin) (.int .u32 m)).setCell (p := ⟨g, q * 3 + 1, none⟩) (fun _ => hin) (.slice none 0 0)).setCell (p := ⟨g, q * 3 + 2, none⟩) (fun _ => hin) (.int .u32 0)).drew
              clear hblk2 hblk3 c1 o2 p2 or2 ot2 F2 f3 hrl hl hin
              go_wp2
              go_region
              all_goals go_wp2
              all_goals go_roundw
              all_goals first
                | exact ⟨q + 1, by omega, by go_num, own_drew o', f'⟩
                | (simp [intOf]; omega)
            · have hkn3 : q = nr := by omega
              subst hkn3
              have o3 : Own wr 35 3 ar q cr (rep (mR m) q) := by simpa [List.drop_of_length_le (show xr.length ≤ q * 3 by have := own_len or2; omega)] using hown3
              have p3 : Own wr 5 1 ab k cb (mB m k) := own_fr p2 f3 (fun z hz => own_apart p2 or2 (by decide) z hz)
              have q3 : Own wr 29 4 ai j ci (rep (mI m) j) := own_fr o2 f3 (fun z hz => own_apart o2 or2 (by decide) z hz)
              have ot3 : Own wr 95 4 at_ nt ct xt := own_fr ot2 f3 (fun z hz => own_apart ot2 or2 (by decide) z hz)
              have F3 : Fr (bk4 (.slice ab k cb) (.slice ai j ci) (.slice ar q cr) (.slice at_ nt ct)) w wr := F2.step f3 (fun z _ hz => Or.inr (Or.inr (Or.inl hz)))
              clear hown3 o2 p2 or2 ot2 F2 f3 c1 hblk2
              go_wp2
              go_loopw [5] (fun i wz => ∃ r : Nat, r ≤ nt ∧ i = .int .i64 r ∧ Own wz 95 4 at_ nt ct (rep (mT m) r ++ xt.drop (r * 4)) ∧ Fr (bk (.slice at_ nt ct)) wr wz) (fun i _ => nt - (intOf i).toNat)
              case atStart => exact ⟨0, Nat.zero_le _, rfl, ot3, Fr.refl _ _⟩
              case round =>
                obtain ⟨r, hr, rfl, hown4, f4⟩ := hrel
                have hblk4 := f4.heap hblk3 (own_ne ot3 hblk3 (by decide))
                have c3 : wr.cell? ⟨hb, 3, none⟩ = some (.slice at_ nt ct) := cell_blk hblk4 rfl
                by_cases hlt4 : r < nt
                · have c4 : wr.cell? ⟨hb, 4, none⟩ = some (.int .i64 m) := cell_blk hblk4 rfl
                  obtain ⟨g, rfl⟩ := own_some hown4 hlt4
                  have hl : (rep (mT m) r ++ xt.drop (r * 4)).length = nt * 4 := own_len hown4
                  have hfz : ∀ z, wr.frozen? ⟨g, z, none⟩ = false := fun z => hown4.frozenAt z
                  obtain ⟨u0, hu0⟩ : ∃ u, wr.cell? ⟨g, r * 4, none⟩ = some u := ⟨_, own_cell hown4 _ (by omega)⟩
                  obtain ⟨u1, hu1⟩ : ∃ u, wr.cell? ⟨g, r * 4 + 1, none⟩ = some u := ⟨_, own_cell hown4 _ (by omega)⟩
                  obtain ⟨u2, hu2⟩ : ∃ u, wr.cell? ⟨g, r * 4 + 2, none⟩ = some u := ⟨_, own_cell hown4 _ (by omega)⟩
                  obtain ⟨u3, hu3⟩ : ∃ u, wr.cell? ⟨g, r * 4 + 3, none⟩ = some u := ⟨_, own_cell hown4 _ (by omega)⟩
                  have hrl : (rep (mT m) r).length = r * 4 := rep_len _ _
                  have o' := own_set4 (p := r * 4) (q := r * 4 + 1) (r := r * 4 + 2) (t := r * 4 + 3) hown4 (by simp only [List.length_append] at hl; omega) (by omega) (by omega) (by omega) (by omega) (.int .i64 (-m)) (.int .i64 0) (.int .u64 0) (.int .u64 0)
                  rw [show [Value.int .i64 (-m), Value.int .i64 0, Value.int .u64 0, Value.int .u64 0] = mT m from rfl, rep_step _ _ _ 4 rfl] at o'
                  have hin : (bk (.slice (some ⟨g, 0, none⟩) nt ct)) g := by simp [bk, Value.ownBlock]
                  have f' := ((((f4.setCell (p := ⟨g, r * 4, none⟩) (fun _ => hin) (.int .i64 (-m))).setCell (p := ⟨g, r * 4 + 1, none⟩) (fun _ => hin) (.int .i64 0)).setCell (p := ⟨g, r * 4 + 2, none⟩) (fun _ => hin) (.int .u64 0)).setCell (p := ⟨g, r * 4 + 3, none⟩) (fun _ => hin) (.int .u64 0)).drew
                  clear hblk3 hblk4 c2 o3 p3 q3 ot3 F3 f4 hrl hl hin
                  go_wp2
                  go_region
                  all_goals go_wp2
                  all_goals go_roundw
                  all_goals first
                    | exact ⟨r + 1, by omega, by go_num, own_drew o', f'⟩
                    | (simp [intOf]; omega)
                · have hkn4 : r = nt := by omega
                  subst hkn4
                  have o4 : Own wr 95 4 at_ r ct (rep (mT m) r) := by simpa [List.drop_of_length_le (show xt.length ≤ r * 4 by have := own_len ot3; omega)] using hown4
                  have p4 : Own wr 5 1 ab k cb (mB m k) := own_fr p3 f4 (fun z hz => own_apart p3 ot3 (by decide) z hz)
                  have q4 : Own wr 29 4 ai j ci (rep (mI m) j) := own_fr q3 f4 (fun z hz => own_apart q3 ot3 (by decide) z hz)
                  have r4 : Own wr 35 3 ar q cr (rep (mR m) q) := own_fr o3 f4 (fun z hz => own_apart o3 ot3 (by decide) z hz)
                  have F4 : Fr (bk4 (.slice ab k cb) (.slice ai j ci) (.slice ar q cr) (.slice at_ r ct)) w wr := F3.step f4 (fun z _ hz => Or.inr (Or.inr (Or.inr hz)))
                  clear hown4 o3 p3 q3 ot3 F3 f4 c2 hblk3
                  go_wp2
                  go_end0
                  exact ⟨rfl, p4, q4, r4, o4, F4⟩
#print axioms marks_any
end Go.Proofs.YtfniofpeilgnnaaGreat
