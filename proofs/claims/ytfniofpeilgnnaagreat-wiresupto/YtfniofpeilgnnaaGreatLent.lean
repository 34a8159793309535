import Derived.Test.YtfniofpeilgnnaaGreatLists
namespace Go.Proofs.YtfniofpeilgnnaaGreat
open Go.RowKit
set_option linter.unusedVariables false

theorem made_rep (z : Array Value) (n s : Nat) (hs : z.size = s) (h0 : 0 < s) : (madeCells z (n * s)).toList = rep z.toList n := by
  subst hs
  apply List.ext_getElem?
  intro j
  by_cases hj : j < n * z.size
  · have h1 : j / z.size < n := (Nat.div_lt_iff_lt_mul h0).2 hj
    have h2 : j % z.size < z.toList.length := by simpa using Nat.mod_lt j h0
    have h3 := rep_get z.toList n (j / z.size) (j % z.size) h1 h2
    rw [show j / z.size * z.toList.length + j % z.size = j by simp only [Array.length_toList]; rw [Nat.mul_comm]; exact Nat.div_add_mod j z.size] at h3
    rw [h3]
    simp at h2
    simp [madeCells, hj, h2]
  · have hl := rep_len z.toList n
    simp only [Array.length_toList] at hl
    rw [List.getElem?_eq_none (by simp [madeCells]; omega), List.getElem?_eq_none (by omega)]
def zIns : Ins := ⟨0, 0, 0, 0⟩
theorem rep_flat (x : Ins) (n : Nat) : rep x.cs n = flat (List.replicate n x) := by
  induction n with
  | zero => rfl
  | succ n ih => rw [rep, ih, List.replicate_succ', flat_append, flat_one]
theorem rep_drop (r : List Value) (n m : Nat) : (rep r (n + m)).drop (n * r.length) = rep r m := by
  induction m with
  | zero => rw [Nat.add_zero, List.drop_of_length_le (by rw [rep_len]; exact Nat.le_refl _)]; rfl
  | succ m ih =>
    rw [← Nat.add_assoc, rep, rep, List.drop_append_of_le_length (by rw [rep_len]; exact Nat.mul_le_mul_right _ (by omega)), ih]
theorem hide {p : Prop} (h : p) : Hid p := h
def b201 (n : Nat) : List Value := List.replicate n (.int .u8 201)

set_option maxRecDepth 100000 in
set_option maxHeartbeats 1000000 in
theorem lent_any (w : World) (s : ByteArray) (hs : s.size ≤ 100000000) :
    Calls Tryz.prog 21 #[.string s] w fun e w' => e = .returned (.slice (some ⟨w.heap.size, 0, none⟩) (s.size + 8) (s.size + 8)) ∧
      Own w' 5 1 (some ⟨w.heap.size, 0, none⟩) (s.size + 8) (s.size + 8) (bcs s ++ b201 8) ∧ Fr nob w w' := by
  obtain ⟨i0, hi, hz0, hz1, hz2⟩ := info_parts info_u8
  go_enter Tryz.func21, Tryz.ntmps21
  go_wp2_with (at_make; refine wpList_make_full _ rfl _ _ 32 rfl 0 5 i0 (.int .u8 0) 1 Tryz.underlying32 hi hz0 hz1 _ _ _ _ (s.size + 8) rfl rfl (by omega) (by omega) ?b1 ?b2 ?b3 ?_)
  case b1 => rw [hz2]; omega
  case b2 => unfold maxLen; omega
  case b3 => omega
  intro w1 o1 g1
  have f1 : Fr nob w w1 := (Fr.refl _ w).grown g1 (fun k _ h => by cases h)
  have hlt1 : w.heap.size < w1.heap.size := own_lt o1 (by simp [bk, Value.ownBlock])
  obtain ⟨w2, hrun, o2, f2⟩ := run_copy_str (P := Tryz.prog) (w := w1) 32 9 3 5 i0 Tryz.underlying32 hi hz1 w.heap.size (s.size + 8) (s.size + 8) _ o1 s (by omega)
  have hz8 : (madeCells #[Value.int .u8 0] (s.size + 8)).toList.drop s.size = List.replicate 8 (.int .u8 0) := by
    rw [toList_madeCells_one, List.drop_replicate, Nat.add_sub_cancel_left]
  rw [hz8] at o2
  have f12 : Fr nob w w2 := f1.step f2 (fun k hk e => by omega)
  clear hz8 o1 g1 f1
  go_wp2_with (at_builtin; refine wpList_copy_run rfl _ _ 32 9 rfl _ _ _ w2 rfl rfl hrun ?_)
  clear hrun
  have hlt2 : w.heap.size < w2.heap.size := own_lt o2 (by simp [bk, Value.ownBlock])
  have hsz : s.size = (bcs s).length := (bcs_len s).symm
  go_loopw [4] (fun i wr => ∃ j : Nat, j ≤ 8 ∧ i = .int .i64 (s.size + j : Nat) ∧ Own wr 5 1 (some ⟨w.heap.size, 0, none⟩) (s.size + 8) (s.size + 8) (bcs s ++ b201 j ++ List.replicate (8 - j) (.int .u8 0)) ∧ Fr nob w wr) (fun i _ => s.size + 8 - (intOf i).toNat)
  case atStart => exact ⟨0, by omega, by simp, by simpa [b201] using o2, f12⟩
  case round =>
    clear o2 f12 f2 hlt2
    obtain ⟨j, hj, rfl, o, f⟩ := hrel
    have HS := hide hsz
    clear hsz
    by_cases hlt : j < 8
    · have hu : wr.cell? ⟨w.heap.size, s.size + j, none⟩ = some (.int .u8 0) := own_get o (by
        rw [List.getElem?_append_right (by simp [bcs_len, b201])]
        simp only [List.length_append, bcs_len, b201, List.length_replicate]
        rw [List.getElem?_replicate, if_pos (by omega)])
      have hfz : wr.frozen? ⟨w.heap.size, s.size + j, none⟩ = false := o.frozenAt _
      have o' := own_set1 (p := s.size + j) o (by simp; omega) (by simp [bcs_len, b201]) (.int .u8 201)
      have o2 : Own (wr.setCell ⟨w.heap.size, s.size + j, none⟩ (.int .u8 201)) 5 1 (some ⟨w.heap.size, 0, none⟩) (s.size + 8) (s.size + 8) (bcs s ++ b201 (j + 1) ++ List.replicate (8 - (j + 1)) (.int .u8 0)) := by
        rw [b201, List.drop_replicate] at o'
        rw [b201, List.replicate_succ', ← List.append_assoc]
        rw [Nat.sub_sub] at o'
        exact o'
      have f2 : Fr nob w (wr.setCell ⟨w.heap.size, s.size + j, none⟩ (.int .u8 201)) := f.setCell (p := ⟨w.heap.size, s.size + j, none⟩) (fun h => absurd h (Nat.lt_irrefl _)) _
      clear o o' f
      go_wp2
      go_roundw
      case rel => exact ⟨j + 1, by omega, by go_num, o2, f2⟩
      case measure => simp [intOf]; omega
    · have hj8 : j = 8 := by omega
      subst hj8
      go_wp2
      go_ret
      exact ⟨rfl, by simpa using o, f⟩
#print axioms lent_any
end Go.Proofs.YtfniofpeilgnnaaGreat
