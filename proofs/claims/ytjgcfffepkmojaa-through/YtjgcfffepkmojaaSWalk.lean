import Derived.Test.YtjgcfffepkmojaaPStk
import Derived.Deep.MidRow
namespace Go.Proofs.Ytjgcfffepkmojaa
open Go.RowKit
set_option linter.unusedVariables false

/-! ### The walks of the program's stack -/
def l7 : List Int := [0, 196608, 327680, 2143289344, 2146435072, 2147221504, 2147418112]
def l7v : List Value := [.int .u32 0, .int .u32 196608, .int .u32 327680, .int .u32 2143289344, .int .u32 2146435072, .int .u32 2147221504, .int .u32 2147418112]
def ix7 (a : Int) : Int := if a = 0 then 0 else if a = 196608 then 1 else if a = 327680 then 2 else if a = 2143289344 then 3 else if a = 2146435072 then 4 else if a = 2147221504 then 5 else if a = 2147418112 then 6 else -1
theorem ix7_at (n : Nat) (h : n < 7) : ix7 (l7.getD n 0) = n := by
  have : n = 0 ∨ n = 1 ∨ n = 2 ∨ n = 3 ∨ n = 4 ∨ n = 5 ∨ n = 6 := by omega
  rcases this with rfl | rfl | rfl | rfl | rfl | rfl | rfl <;> rfl
theorem l7v_at (n : Nat) (h : n < 7) : l7v[n]? = some (.int .u32 (l7.getD n 0)) := by
  have : n = 0 ∨ n = 1 ∨ n = 2 ∨ n = 3 ∨ n = 4 ∨ n = 5 ∨ n = 6 := by omega
  rcases this with rfl | rfl | rfl | rfl | rfl | rfl | rfl <;> rfl
theorem ix7_no (a : Int) (h : ∀ j, j < 7 → l7.getD j 0 ≠ a) : ix7 a = -1 := by
  have h0 : (0 : Int) ≠ a := h 0 (by decide)
  have h1 : (196608 : Int) ≠ a := h 1 (by decide)
  have h2 : (327680 : Int) ≠ a := h 2 (by decide)
  have h3 : (2143289344 : Int) ≠ a := h 3 (by decide)
  have h4 : (2146435072 : Int) ≠ a := h 4 (by decide)
  have h5 : (2147221504 : Int) ≠ a := h 5 (by decide)
  have h6 : (2147418112 : Int) ≠ a := h 6 (by decide)
  unfold ix7
  rw [if_neg (Ne.symm h0), if_neg (Ne.symm h1), if_neg (Ne.symm h2), if_neg (Ne.symm h3), if_neg (Ne.symm h4), if_neg (Ne.symm h5), if_neg (Ne.symm h6)]
theorem ix7_rnk (v : Int) : 1 + ix7 (v / 65536 * 65536) = rnk v := by
  unfold ix7 rnk
  generalize v / 65536 = q
  repeat' split
  all_goals omega
theorem rnk_bd (v : Int) : 0 ≤ rnk v ∧ rnk v ≤ 7 := by
  unfold rnk
  repeat' split
  all_goals omega
set_option maxRecDepth 100000 in
theorem index7_any (w : World) (g off cap : Nat) (hs : Seg w g off l7v) (a : Int) :
    Calls Try.prog 87 #[.slice (some ⟨g, off, none⟩) 7 cap, .int .u32 a] w fun e w' => e = .returned (.int .i64 (ix7 a)) ∧ w' = w := by
  go_enter Try.func87, Try.ntmps87
  go_wp2_with fail
  go_loopw [8] (fun y wr => ∃ n : Nat, n ≤ 7 ∧ y = .int .i64 n ∧ (∀ j, j < n → l7.getD j 0 ≠ a) ∧ wr = w) (fun y _ => 7 - (intOf y).toNat)
  case atStart => exact ⟨0, by omega, rfl, fun j hj => absurd hj (Nat.not_lt_zero _), rfl⟩
  case round =>
    obtain ⟨n, hn, rfl, hj, rfl⟩ := hrel
    by_cases hlt : n < 7
    · have c0 := hs n _ (l7v_at n hlt)
      have hat := ix7_at n hlt
      obtain ⟨y, hy⟩ : ∃ y, y = l7.getD n 0 := ⟨_, rfl⟩
      rw [← hy] at c0 hat
      have HJ := hide hj
      have HY := hide hy
      have HAT := hide hat
      have hlti : (n : Int) < 7 := by omega
      clear hj hy hat
      by_cases he : a = y
      · subst he
        go_wp2_with fail
        go_ret
        exact ⟨ret_i HAT.out.symm, rfl⟩
      · have e1 : (a == y) = false := beq_eq_false_iff_ne.2 he
        have HE := hide he
        clear he HAT
        go_wp2_with fail
        go_roundw
        case rel => exact ⟨n + 1, by omega, by go_num, fun j hj => by
          rcases Nat.lt_or_ge j n with h | h
          · exact HJ.out j h
          · rw [show j = n by omega, ← HY.out]; exact fun e => HE.out e.symm, by first | rfl | trivial⟩
        case measure => simp [intOf]; omega
    · have hn7 : n = 7 := by omega
      subst hn7
      have hno := ix7_no a hj
      clear hj
      go_wp2_with fail
      go_ret
      exact ⟨ret_i hno.symm, rfl⟩
#print axioms index7_any
set_option maxRecDepth 100000 in
theorem mild_any (w : World) (v : Int) (hv : U32 v) :
    Calls Try.prog 47 #[.int .u32 v] w fun e w' => e = .returned (.int .i64 (rnk v)) ∧ Fr nob w w' := by
  have h1 := and_act v hv
  have h2 := ix7_rnk v
  have h3 := rnk_bd v
  have HK : Hid (Seg (w.alloc (.cells #[.int .u32 0, .int .u32 196608, .int .u32 327680, .int .u32 2143289344, .int .u32 2146435072, .int .u32 2147221504, .int .u32 2147418112] 27)) w.heap.size 0 l7v) := fun j v hj => by
    rw [Nat.zero_add]
    exact cell_blk (heap_alloc_new w _) (by rw [← hj]; show l7v.toArray[j]? = _; rw [List.getElem?_toArray])
  obtain ⟨a, ha⟩ : ∃ a, a = v / 65536 * 65536 := ⟨_, rfl⟩
  rw [← ha] at h1 h2
  clear ha
  obtain ⟨z, hz⟩ : ∃ z, z = ix7 a := ⟨_, rfl⟩
  have HZ := hide hz
  have H2 := hide h2
  have hz1 : -1 ≤ z ∧ z ≤ 6 := by rw [hz]; omega
  clear hz h2 h3
  go_enter Try.func47, Try.ntmps47
  go_wp2_with fail
  refine (index7_any _ _ _ _ HK.out a).mono ?_
  rintro e w1 ⟨rfl, rfl⟩
  rw [← HZ.out]
  go_wp2_with fail
  go_ret
  exact ⟨ret_i (by rw [HZ.out]; exact H2.out), (Fr.refl _ w).alloc _⟩

/-! ### Too much -/
def sl (ls : List Prg) (i : Nat) : Nat := match ls[i]? with
  | some p => p.l.length
  | none => 0
theorem slot_sl (ls : List Prg) (i : Nat) : ∃ a c, slot ls i = .slice a (sl ls i) c := by
  unfold slot sl
  cases ls[i]? with
  | none => exact ⟨none, 0, rfl⟩
  | some p => exact ⟨p.a, p.cap, rfl⟩
theorem tot_sl (ls : List Prg) (n : Nat) : tot (ls.take (n + 1)) = tot (ls.take n) + sl ls n := by
  unfold sl
  rcases Nat.lt_or_ge n ls.length with h | h
  · rw [List.take_succ_eq_append_getElem h, tot_app, List.getElem?_eq_getElem h]; simp [tot]
  · rw [List.take_of_length_le (by omega), List.take_of_length_le h, List.getElem?_eq_none h]; rfl
theorem tot_take (ls : List Prg) (h : ∀ q ∈ ls, Good q.l) (n : Nat) : tot (ls.take n) ≤ n * 4096 := by
  induction n with
  | zero => simp [tot]
  | succ n ih =>
    rw [tot_sl]
    have : sl ls n ≤ 4096 := by
      unfold sl
      rcases Nat.lt_or_ge n ls.length with h1 | h1
      · rw [List.getElem?_eq_getElem h1]; exact (h _ (List.getElem_mem h1)).le
      · rw [List.getElem?_eq_none h1]; exact Nat.zero_le _
    omega
theorem ix8 (ls : List Prg) (n : Nat) (h : n < 8) (w : World) : (Instr.index 73 (.agg (slots8 ls).toArray) (.int .i64 (n : Int))).run Try.prog w = .ok (slot ls n) w := by
  have h0 : (Instr.index 73 (.agg (slots8 ls).toArray) (.int .i64 0)).run Try.prog w = .ok (slot ls 0) w := by kernel_rfl
  have h1 : (Instr.index 73 (.agg (slots8 ls).toArray) (.int .i64 1)).run Try.prog w = .ok (slot ls 1) w := by kernel_rfl
  have h2 : (Instr.index 73 (.agg (slots8 ls).toArray) (.int .i64 2)).run Try.prog w = .ok (slot ls 2) w := by kernel_rfl
  have h3 : (Instr.index 73 (.agg (slots8 ls).toArray) (.int .i64 3)).run Try.prog w = .ok (slot ls 3) w := by kernel_rfl
  have h4 : (Instr.index 73 (.agg (slots8 ls).toArray) (.int .i64 4)).run Try.prog w = .ok (slot ls 4) w := by kernel_rfl
  have h5 : (Instr.index 73 (.agg (slots8 ls).toArray) (.int .i64 5)).run Try.prog w = .ok (slot ls 5) w := by kernel_rfl
  have h6 : (Instr.index 73 (.agg (slots8 ls).toArray) (.int .i64 6)).run Try.prog w = .ok (slot ls 6) w := by kernel_rfl
  have h7 : (Instr.index 73 (.agg (slots8 ls).toArray) (.int .i64 7)).run Try.prog w = .ok (slot ls 7) w := by kernel_rfl
  have hc : n = 0 ∨ n = 1 ∨ n = 2 ∨ n = 3 ∨ n = 4 ∨ n = 5 ∨ n = 6 ∨ n = 7 := by omega
  rcases hc with rfl | rfl | rfl | rfl | rfl | rfl | rfl | rfl
  · exact h0
  · exact h1
  · exact h2
  · exact h3
  · exact h4
  · exact h5
  · exact h6
  · exact h7
theorem SB.range {w : World} {g : Nat} {t : TypeId} {ls : List Prg} (h : SB w g t ls) : w.rangeAt g 0 (slots8 ls) := fun j v hj => by
  have hl : j < 8 := (List.getElem?_eq_some_iff.1 hj).1
  rw [slots8_at hl] at hj
  rw [Nat.zero_add]
  exact h.cell j v ((slots_at hl).trans hj)
def much (ls : List Prg) : Bool := decide (8 < ls.length) || decide (8192 < tot (ls.take 8))
set_option maxRecDepth 100000 in
set_option maxHeartbeats 2000000 in
theorem much_any (w : World) (g : Nat) (t : TypeId) (ls : List Prg) (hb : SB w g t ls) (hg : ∀ q ∈ ls, Good q.l) (hl : ls.length ≤ 100000000) :
    Calls Try.prog 46 #[.pointer (some ⟨g, 0, none⟩)] w fun e w' => e = .returned (.bool (much ls)) ∧ w' = w := by
  have R8 := hide hb.range
  have c8 : w.cell? ⟨g, 8, none⟩ = some (.int .i64 ls.length) := hb.cell 8 _ rfl
  have HG := hide hg
  obtain ⟨A, hA⟩ : ∃ A, A = (slots8 ls).toArray := ⟨_, rfl⟩
  have HA := hide hA
  have hix : ∀ (n : Nat), n < 8 → ∀ w, (Instr.index 73 (.agg A) (.int .i64 (n : Int))).run Try.prog w = .ok (slot ls n) w := fun n hn w => by rw [hA]; exact ix8 ls n hn w
  have HIX := hide hix
  clear hb hg hA hix
  go_enter Try.func46, Try.ntmps46
  go_wp2_with (refine wpList_load_mid rfl 73 _ rfl g 0 rfl (slots8 ls) _ R8.out Try.underlying73 rfl (by kernel_rfl) ?_)
  rw [← HA.out]
  go_loopw [3, 10] (fun y t wr => ∃ n : Nat, n ≤ 8 ∧ t = .int .i64 n ∧ y = .int .i64 (tot (ls.take n) : Int) ∧ wr = w) (fun _ t _ => 8 - (intOf t).toNat)
  case atStart => exact ⟨0, by omega, rfl, rfl, rfl⟩
  case round =>
    obtain ⟨n, hn, rfl, rfl, rfl⟩ := hrel
    have hb1 := tot_take ls HG.out n
    by_cases hlt : n < 8
    · have hix := HIX.out n hlt
      obtain ⟨a, c, hsl⟩ := slot_sl ls n
      rw [hsl] at hix
      have hts := tot_sl ls n
      have hb2 := tot_take ls HG.out (n + 1)
      have HT := hide hts
      rw [hts] at hb2
      have hlti : (n : Int) < 8 := by omega
      clear hts hsl
      generalize tot (ls.take n) = T at hb1 hb2 HT ⊢
      generalize sl ls n = S at hb2 HT hix ⊢
      go_wp2_with fail
      go_roundw
      case rel => exact ⟨n + 1, by omega, by go_num, by rw [HT.out]; go_num, by first | rfl | trivial⟩
      case measure => simp [intOf]; omega
    · have hn8 : n = 8 := by omega
      subst hn8
      have hmu : much ls = (decide (8 < ls.length) || decide (8192 < tot (ls.take 8))) := rfl
      have HMU := hide hmu
      generalize tot (ls.take 8) = T at hb1 HMU ⊢
      clear hn hlt hmu
      by_cases h8 : 8 < ls.length
      · have e8 : (8 : Int) < (ls.length : Int) := by omega
        go_wp2_with fail
        go_ret
        exact ⟨ret_b (by rw [HMU.out]; simp [h8]), rfl⟩
      · have e8 : ¬ (8 : Int) < (ls.length : Int) := by omega
        by_cases h9 : 8192 < T
        · have e9 : (8192 : Int) < (T : Int) := by omega
          go_wp2_with fail
          go_ret
          exact ⟨ret_b (by rw [HMU.out]; simp [h9]), rfl⟩
        · have e9 : ¬ (8192 : Int) < (T : Int) := by omega
          go_wp2_with fail
          go_ret
          exact ⟨ret_b (by rw [HMU.out]; simp [h8, h9]), rfl⟩
#print axioms much_any

/-! ### One more -/
set_option maxRecDepth 100000 in
set_option maxHeartbeats 2000000 in
theorem put_any (w : World) (g : Nat) (t : TypeId) (ls : List Prg) (hb : SB w g t ls) (p : Prg) (hl : ls.length ≤ 100000000) :
    Calls Try.prog 45 #[.pointer (some ⟨g, 0, none⟩), .slice p.a p.l.length p.cap] w fun e w' => e = .returned (.tuple #[]) ∧ SB w' g t (ls ++ [p]) ∧ Fr (only g) w w' := by
  have c8 : w.cell? ⟨g, 8, none⟩ = some (.int .i64 ls.length) := hb.cell 8 _ rfl
  have HB := hide hb
  have z : ∀ j, w.frozen? ⟨g, j, none⟩ = false := fun j => frozen_blk hb
  by_cases hlt : ls.length < 8
  · have hlti : (ls.length : Int) < 8 := by omega
    have cn := hb.cell _ _ (slots_at hlt)
    clear hb
    go_enter Try.func45, Try.ntmps45
    go_wp2_with fail
    go_region
    obtain ⟨w1, hw1⟩ : ∃ w1, w1 = (w.setCell ⟨g, ls.length, none⟩ (.slice p.a p.l.length p.cap)).drew := ⟨_, rfl⟩
    rw [← hw1]
    have hb1 : w1.heap[g]? = some (.cells ((slots ls).set ls.length p.v).toArray t (0, 0)) := by rw [hw1]; exact HB.out.set _ _
    have c9 : w1.cell? ⟨g, 8, none⟩ = some (.int .i64 ls.length) := cell_blk hb1 (by rw [List.getElem?_toArray, List.getElem?_set_ne (by omega)]; rfl)
    have z1 : ∀ j, w1.frozen? ⟨g, j, none⟩ = false := fun j => frozen_blk hb1
    have f1 : Fr (only g) w w1 := by rw [hw1]; exact (only_set (Fr.refl _ w) _ _).drew
    have HB1 := hide hb1
    have F1 := hide f1
    clear hw1 hb1 f1 c8 cn z
    go_wp2_with fail
    go_end0
    refine ⟨rfl, ?_, only_set F1.out 8 _⟩
    unfold SB
    rw [heap_setCell_same _ _ _ _ _ _ HB1.out, ← slots_put p hlt]
    simp
  · have hlti : ¬ (ls.length : Int) < 8 := by omega
    clear hb
    go_enter Try.func45, Try.ntmps45
    go_wp2_with fail
    go_end0
    refine ⟨rfl, ?_, only_set (Fr.refl _ w) 8 _⟩
    unfold SB
    rw [HB.out.set 8, slots_over p (by omega)]
end Go.Proofs.Ytjgcfffepkmojaa
