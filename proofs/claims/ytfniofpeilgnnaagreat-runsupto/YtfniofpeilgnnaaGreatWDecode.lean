import Derived.Test.YtfniofpeilgnnaaGreatDecode
import Derived.Test.YtfniofpeilgnnaaGreatReadInsn
namespace Go.Proofs.YtfniofpeilgnnaaGreat
open Go.RowKit
set_option linter.unusedVariables false

theorem wDecode_bad (w : World) (ao : Option Addr) (n cap : Nat) (hs : n ≤ 100000000) (h : n % 8 ≠ 0 ∨ n = 0 ∨ 32768 < n) :
    Calls Tryz.prog 43 #[.slice ao n cap] w fun e w' => e = .returned (.tuple #[.slice none 0 0, .int .i64 1]) ∧ w' = w := by
  by_cases h1 : n % 8 = 0
  · have e1 : ((n : Int) % 8 != 0) = false := by simp; omega
    by_cases h2 : n = 0
    · subst h2
      clear h
      go_enter Tryz.func43, Tryz.ntmps43
      go_wp2
      go_ret2
      exact ⟨rfl, rfl⟩
    · have h3 : 32768 < n := by omega
      have e0 : ((n : Int) / 8 == 0) = false := beq_eq_false_iff_ne.2 (by omega)
      clear h h2
      go_enter Tryz.func43, Tryz.ntmps43
      go_wp2
      go_ret2
      exact ⟨rfl, rfl⟩
  · have e1 : ((n : Int) % 8 != 0) = true := by rw [bne_iff_ne]; omega
    clear h
    go_enter Tryz.func43, Tryz.ntmps43
    go_wp2
    go_ret2
    exact ⟨rfl, rfl⟩

set_option maxRecDepth 100000 in
set_option maxHeartbeats 2000000 in
theorem wDecode_ok (w : World) (g off cap : Nat) (s : ByteArray) (n : Nat) (hn : s.size = n * 8) (h0 : 0 < n) (hs : n ≤ 4096) (hc : s.size ≤ cap) (hseg : Seg w g off (bcs s)) :
    Calls Tryz.prog 43 #[.slice (some ⟨g, off, none⟩) s.size cap] w fun e w' => e = .returned (.tuple #[.slice (some ⟨w.heap.size, 0, none⟩) n n, .int .i64 0]) ∧
      Own w' 29 4 (some ⟨w.heap.size, 0, none⟩) n n (flat (decL s n)) ∧ Fr nob w w' := by
  have e1 : ((s.size : Int) % 8 != 0) = false := by simp; omega
  have e3 : ((s.size : Int) / 8) = (n : Int) := by omega
  have e0 : ((n : Int) == 0) = false := beq_eq_false_iff_ne.2 (by omega)
  have HN := hide hn
  have hsz : s.size ≤ 32768 := by omega
  clear hn
  obtain ⟨i0, hi, hz0, hz1, hz2⟩ := info_parts info_insn
  go_enter Tryz.func43, Tryz.ntmps43
  go_wp2_with (at_make; refine wpList_make_full _ rfl _ _ 30 rfl 0 29 i0 _ 4 Tryz.underlying30 hi hz0 hz1 _ _ _ _ n rfl rfl (by omega) (by omega) ?b1 ?b2 ?b3 ?_)
  case b1 => rw [hz2]; omega
  case b2 => unfold maxLen; omega
  case b3 => omega
  intro w1 o1 g1
  have f1 : Fr nob w w1 := (Fr.refl _ w).grown g1 (fun k _ h => by cases h)
  have hlt1 : w.heap.size < w1.heap.size := own_lt o1 (by simp [bk, Value.ownBlock])
  obtain ⟨Z, hZ⟩ : ∃ Z, Z = (madeCells #[Value.int .u16 0, Value.int .u8 0, Value.int .u8 0, Value.int .u32 0] (n * 4)).toList := ⟨_, rfl⟩
  have o1' : Own w1 29 4 (some ⟨w.heap.size, 0, none⟩) n n Z := by rw [hZ]; exact o1
  have HZ := hide hZ
  clear hZ o1 g1
  go_wp2_with fail
  go_loopw [26] (fun i wr => ∃ k : Nat, k ≤ n ∧ i = .int .i64 k ∧ Own wr 29 4 (some ⟨w.heap.size, 0, none⟩) n n (flat (decL s k) ++ Z.drop (k * 4)) ∧ Fr nob w wr) (fun i _ => n - (intOf i).toNat)
  case atStart => exact ⟨0, by omega, rfl, o1', f1⟩
  case round =>
    clear o1' f1
    obtain ⟨k, hk, rfl, o, f⟩ := hrel
    by_cases h1 : k < n
    · have hk8 : k * 8 + 8 ≤ s.size := by have := HN.out; omega
      have hk8' : (k : Int) * 8 + 8 ≤ (s.size : Int) := by omega
      have hl : (flat (decL s k) ++ Z.drop (k * 4)).length = n * 4 := own_len o
      have hfl : (flat (decL s k)).length = k * 4 := by rw [flat_len, decL_len]
      have hs8 : ∀ j, j < 8 → wr.cell? ⟨g, off + k * 8 + j, none⟩ = some (.int .u8 (byt s (k * 8 + j))) := fun j hj => by
        rw [Nat.add_assoc]; exact (hseg.fr f (fun h => h)) (k * 8 + j) _ (bcs_byt s _ (by omega))
      go_wp2_with fail
      refine (readInsn_any wr g (off + k * 8) _ _ _ _ _ _ _ _ _ _ (by omega) (hs8 0 (by decide)) (hs8 1 (by decide)) (hs8 2 (by decide)) (hs8 3 (by decide)) (hs8 4 (by decide)) (hs8 5 (by decide)) (hs8 6 (by decide)) (hs8 7 (by decide)) (byt_bd _ _) (byt_bd _ _) (byt_bd _ _) (byt_bd _ _) (byt_bd _ _) (byt_bd _ _) (byt_bd _ _) (byt_bd _ _)).mono ?_
      rintro e w2 ⟨rfl, f2⟩
      have o2 := own_fr o f2 (fun _ _ h => h)
      have hfz : ∀ z, w2.frozen? ⟨w.heap.size, z, none⟩ = false := fun z => o2.frozenAt z
      obtain ⟨u0, hu0⟩ : ∃ u, w2.cell? ⟨w.heap.size, k * 4, none⟩ = some u := ⟨_, own_cell o2 _ (by omega)⟩
      obtain ⟨u1, hu1⟩ : ∃ u, w2.cell? ⟨w.heap.size, k * 4 + 1, none⟩ = some u := ⟨_, own_cell o2 _ (by omega)⟩
      obtain ⟨u2, hu2⟩ : ∃ u, w2.cell? ⟨w.heap.size, k * 4 + 2, none⟩ = some u := ⟨_, own_cell o2 _ (by omega)⟩
      obtain ⟨u3, hu3⟩ : ∃ u, w2.cell? ⟨w.heap.size, k * 4 + 3, none⟩ = some u := ⟨_, own_cell o2 _ (by omega)⟩
      obtain ⟨x, hx⟩ : ∃ x, x = decI s (k * 8) := ⟨_, rfl⟩
      have o3 := own_set4 (p := k * 4) (q := k * 4 + 1) (r := k * 4 + 2) (t := k * 4 + 3) o2 (by simp only [List.length_append] at hl; omega) (by omega) (by omega) (by omega) (by omega) (.int .u16 x.code) (.int .u8 x.jt) (.int .u8 x.jf) (.int .u32 x.k)
      rw [show [Value.int .u16 x.code, Value.int .u8 x.jt, Value.int .u8 x.jf, Value.int .u32 x.k] = flat [x] from by rw [flat_one]; rfl, ← flat_append, List.drop_drop] at o3
      have o4 : flat (decL s k ++ [x]) ++ List.drop (k * 4 + 4) Z = flat (decL s (k + 1)) ++ List.drop ((k + 1) * 4) Z := by rw [decL_succ, hx, Nat.succ_mul]
      rw [o4] at o3
      have f3 := ((((f.trans f2).setCell (p := ⟨w.heap.size, k * 4, none⟩) (fun h => absurd h (Nat.lt_irrefl _)) (.int .u16 x.code)).setCell (p := ⟨w.heap.size, k * 4 + 1, none⟩) (fun h => absurd h (Nat.lt_irrefl _)) (.int .u8 x.jt)).setCell (p := ⟨w.heap.size, k * 4 + 2, none⟩) (fun h => absurd h (Nat.lt_irrefl _)) (.int .u8 x.jf)).setCell (p := ⟨w.heap.size, k * 4 + 3, none⟩) (fun h => absurd h (Nat.lt_irrefl _)) (.int .u32 x.k)
      subst hx
      clear o o2 o4 f f2 hs8 hl hfl
      go_wp2
      go_roundw
      case rel => exact ⟨k + 1, by omega, by go_num, o3, f3⟩
      case measure => simp [intOf]; omega
    · have hkn : k = n := by omega
      subst hkn
      have hZl : Z.length ≤ k * 4 := by have := own_len o; simp only [List.length_append, flat_len, decL_len, List.length_drop] at this; rw [HZ.out]; simp [madeCells]
      rw [List.drop_of_length_le hZl, List.append_nil] at o
      go_wp2
      go_ret2
      exact ⟨rfl, o, f⟩

theorem sDecode_bad (w : World) (ao : Option Addr) (n cap : Nat) (hs : n ≤ 100000000) (h : n % 8 ≠ 0 ∨ n = 0 ∨ 32768 < n) :
    Calls Tryz.prog 22 #[.slice ao n cap] w fun e w' => e = .returned (.tuple #[.slice none 0 0, .int .i64 1]) ∧ w' = w := by
  go_enter Tryz.func22, Tryz.ntmps22
  go_wp2_with fail
  refine (wDecode_bad _ ao n cap hs h).mono ?_
  rintro e w1 ⟨rfl, rfl⟩
  go_wp2
  go_ret2
  exact ⟨rfl, rfl⟩
theorem sDecode_ok (w : World) (g off cap : Nat) (s : ByteArray) (n : Nat) (hn : s.size = n * 8) (h0 : 0 < n) (hs : n ≤ 4096) (hc : s.size ≤ cap) (hseg : Seg w g off (bcs s)) :
    Calls Tryz.prog 22 #[.slice (some ⟨g, off, none⟩) s.size cap] w fun e w' => e = .returned (.tuple #[.slice (some ⟨w.heap.size, 0, none⟩) n n, .int .i64 0]) ∧
      Own w' 29 4 (some ⟨w.heap.size, 0, none⟩) n n (flat (decL s n)) ∧ Fr nob w w' := by
  have HN := hide hn
  clear hn
  go_enter Tryz.func22, Tryz.ntmps22
  go_wp2_with fail
  refine (wDecode_ok _ g off cap s n HN.out h0 hs hc hseg).mono ?_
  rintro e w1 ⟨rfl, o, f⟩
  go_wp2
  go_ret2
  exact ⟨rfl, o, f⟩
#print axioms sDecode_ok
end Go.Proofs.YtfniofpeilgnnaaGreat
