import Derived.Test.YtjgcfffepkmojaaRInst
namespace Go.Proofs.Ytjgcfffepkmojaa
open Go.RowKit
set_option linter.unusedVariables false

/-! ### Verdicts are of 32 bits -/
theorem v_ite {c : Prop} [Decidable c] {p q : Mc} (h1 : c → U32 p.v) (h2 : ¬ c → U32 q.v) : U32 (if c then p else q).v := by
  by_cases h : c
  · rw [if_pos h]; exact h1 h
  · rw [if_neg h]; exact h2 h
theorem u32_0 : U32 0 := ⟨by decide, by decide⟩
theorem alu_v {c k : Int} {i : Ins} {m : Mc} (hv : U32 m.v) : U32 (alu c k i m).v := by
  unfold alu
  repeat' (refine v_ite (fun _ => ?_) (fun _ => ?_))
  all_goals first
    | exact hv
    | exact u32_0
theorem stp_v {i : Ins} {r : ByteArray} {m : Mc} (hm : m.ok) (hv : U32 m.v) (hi : i.ok) : U32 (stp i r m).v := by
  have hA : U32 (alu (low i.code) (if xb i.code then m.x else i.k) i { m with pc := m.pc + 1 }).v := alu_v hv
  unfold stp
  generalize alu (low i.code) (if xb i.code then m.x else i.k) i { m with pc := m.pc + 1 } = q at hA ⊢
  repeat' (refine v_ite (fun _ => ?_) (fun _ => ?_))
  all_goals first
    | exact hv
    | exact hi.2.2.2
    | exact hm.a
    | exact hA
theorem stN_v {l : List Ins} (h : Good l) (r : ByteArray) (n : Nat) : U32 (stN l r n).v := by
  induction n with
  | zero => exact u32_0
  | succ n ih => exact stp_v (stN_ok h r n) ih (gI_ok h _)
theorem ver_bd {l : List Ins} (h : Good l) (r : ByteArray) : U32 (ver l r) := stN_v h r _

/-! ### How strict -/
def lst7 : List Value := [.int .u32 0, .int .u32 196608, .int .u32 327680, .int .u32 2143289344, .int .u32 2146435072, .int .u32 2147221504, .int .u32 2147418112]
theorem and_act (v : Int) (h : U32 v) : bits .and .u32 v 4294901760 = v / 65536 * 65536 := by
  obtain ⟨h0, h1⟩ := h
  rw [u32_and v 4294901760 h0 h1 (by decide) (by decide)]
  obtain ⟨n, rfl⟩ := Int.eq_ofNat_of_zero_le h0
  have hn : n < 4294967296 := by omega
  have : n &&& 4294901760 = n / 65536 * 65536 := by
    apply Nat.eq_of_testBit_eq
    intro i
    rw [show (4294901760 : Nat) = 65535 * 2 ^ 16 by decide, show n / 65536 * 65536 = n / 2 ^ 16 * 2 ^ 16 by rfl, Nat.testBit_and, Nat.testBit_mul_two_pow, Nat.testBit_mul_two_pow, Nat.testBit_div_two_pow]
    by_cases hi : 16 ≤ i
    · simp only [hi, decide_true, Bool.true_and, Nat.sub_add_cancel hi]
      by_cases h32 : i < 32
      · rw [show (65535 : Nat) = 2 ^ 16 - 1 by decide, Nat.testBit_two_pow_sub_one]
        simp
        intro _
        omega
      · have : n.testBit i = false := Nat.testBit_lt_two_pow (Nat.lt_of_lt_of_le hn (show 2 ^ 32 ≤ 2 ^ i from Nat.pow_le_pow_right (by decide) (by omega)))
        rw [this]; rfl
    · simp [hi]
  show ((n &&& 4294901760 : Nat) : Int) = _
  rw [this]
  omega

/-! ### The program's stack: eight places, and how many there are -/
def slot (ls : List Prg) (i : Nat) : Value := match ls[i]? with
  | some p => p.v
  | none => .slice none 0 0
def slots8 (ls : List Prg) : List Value := [slot ls 0, slot ls 1, slot ls 2, slot ls 3, slot ls 4, slot ls 5, slot ls 6, slot ls 7]
def slots (ls : List Prg) : List Value := [slot ls 0, slot ls 1, slot ls 2, slot ls 3, slot ls 4, slot ls 5, slot ls 6, slot ls 7, .int .i64 ls.length]
theorem slots_nil : (slots []).toArray = #[.slice none 0 0, .slice none 0 0, .slice none 0 0, .slice none 0 0, .slice none 0 0, .slice none 0 0, .slice none 0 0, .slice none 0 0, .int .i64 0] := rfl
theorem slot_eq {ls : List Prg} {i : Nat} (h : i < ls.length) : slot ls i = ls[i].v := by unfold slot; rw [List.getElem?_eq_getElem h]
theorem slot_no {ls : List Prg} {i : Nat} (h : ls.length ≤ i) : slot ls i = .slice none 0 0 := by unfold slot; rw [List.getElem?_eq_none h]
theorem slot_old {ls : List Prg} {p : Prg} {i : Nat} (h : i ≠ ls.length) : slot (ls ++ [p]) i = slot ls i := by
  unfold slot
  rcases Nat.lt_or_ge i ls.length with h1 | h1
  · rw [List.getElem?_append_left h1]
  · rw [List.getElem?_append_right h1, List.getElem?_eq_none h1, List.getElem?_eq_none (by simp; omega)]
theorem slot_new {ls : List Prg} {p : Prg} : slot (ls ++ [p]) ls.length = p.v := by
  unfold slot
  simp
theorem slots_at {ls : List Prg} {i : Nat} (h : i < 8) : (slots ls)[i]? = some (slot ls i) := by
  have : i = 0 ∨ i = 1 ∨ i = 2 ∨ i = 3 ∨ i = 4 ∨ i = 5 ∨ i = 6 ∨ i = 7 := by omega
  rcases this with rfl | rfl | rfl | rfl | rfl | rfl | rfl | rfl <;> rfl
theorem slots8_at {ls : List Prg} {i : Nat} (h : i < 8) : (slots8 ls)[i]? = some (slot ls i) := by
  have : i = 0 ∨ i = 1 ∨ i = 2 ∨ i = 3 ∨ i = 4 ∨ i = 5 ∨ i = 6 ∨ i = 7 := by omega
  rcases this with rfl | rfl | rfl | rfl | rfl | rfl | rfl | rfl <;> rfl
/-- Put upon it: a place is filled, and it is counted; if there is none it is counted only. -/
theorem slots_put {ls : List Prg} (p : Prg) (h : ls.length < 8) : ((slots ls).set ls.length p.v).set 8 (.int .i64 ((ls.length : Int) + 1)) = slots (ls ++ [p]) := by
  have hl : ((ls ++ [p]).length : Int) = (ls.length : Int) + 1 := by simp
  unfold slots
  rw [hl]
  have hc : ls.length = 0 ∨ ls.length = 1 ∨ ls.length = 2 ∨ ls.length = 3 ∨ ls.length = 4 ∨ ls.length = 5 ∨ ls.length = 6 ∨ ls.length = 7 := by omega
  have hn : ∀ i, i = ls.length → slot (ls ++ [p]) i = p.v := fun i hi => by rw [hi]; exact slot_new
  have ho : ∀ i, i ≠ ls.length → slot (ls ++ [p]) i = slot ls i := fun i hi => slot_old hi
  rcases hc with e | e | e | e | e | e | e | e <;> rw [e] at hn ho ⊢ <;> simp [hn, ho]
theorem slots_over {ls : List Prg} (p : Prg) (h : 8 ≤ ls.length) : (slots ls).set 8 (.int .i64 ((ls.length : Int) + 1)) = slots (ls ++ [p]) := by
  have hl : ((ls ++ [p]).length : Int) = (ls.length : Int) + 1 := by simp
  unfold slots
  rw [hl]
  have ho : ∀ i, i < 8 → slot (ls ++ [p]) i = slot ls i := fun i hi => slot_old (by omega)
  simp [ho]
/-- The block g holds them. -/
def SB (w : World) (g : Nat) (t : TypeId) (ls : List Prg) : Prop := w.heap[g]? = some (.cells (slots ls).toArray t (0, 0))
theorem SB.lt {w : World} {g : Nat} {t : TypeId} {ls : List Prg} (h : SB w g t ls) : g < w.heap.size := (Array.getElem?_eq_some_iff.1 h).1
theorem SB.cell {w : World} {g : Nat} {t : TypeId} {ls : List Prg} (h : SB w g t ls) (j : Nat) (v : Value) (hj : (slots ls)[j]? = some v) : w.cell? ⟨g, j, none⟩ = some v := cell_blk h (by rw [List.getElem?_toArray]; exact hj)
theorem SB.fr0 {w w' : World} {g : Nat} {t : TypeId} {ls : List Prg} (h : SB w g t ls) (f : Fr nob w w') : SB w' g t ls := f.heap h (fun h => h)
theorem SB.alloc {w : World} {g : Nat} {t : TypeId} {ls : List Prg} (h : SB w g t ls) (o : Obj) : SB (w.alloc o) g t ls := blk_alloc h
theorem SB.set {w : World} {g : Nat} {t : TypeId} {ls : List Prg} (h : SB w g t ls) (j : Nat) (v : Value) : (w.setCell ⟨g, j, none⟩ v).heap[g]? = some (.cells ((slots ls).set j v).toArray t (0, 0)) := by
  rw [heap_setCell_same _ _ _ _ _ _ h]
  simp
end Go.Proofs.Ytjgcfffepkmojaa
