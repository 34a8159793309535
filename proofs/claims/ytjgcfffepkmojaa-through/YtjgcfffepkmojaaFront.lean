import Derived.Test.YtjgcfffepkmojaaMRun
namespace Go.Proofs.Ytjgcfffepkmojaa
open Go.RowKit
set_option linter.unusedVariables false

/-! ### One instruction more in front, that does nothing -/
def J : Ins := ⟨5, 0, 0, 0⟩
theorem gI_front (l : List Ins) (n : Nat) : gI (J :: l) (n + 1) = gI l n := by simp [gI, List.getD]
theorem gI_front0 (l : List Ins) : gI (J :: l) 0 = J := by simp [gI, List.getD]
theorem kndJ : knd J.code = 2 := by decide
theorem sc_front (l : List Ins) (n : Nat) : sc (J :: l) (n + 1) = (sc l n).map (· + 1) := by
  unfold sc
  rw [gI_front]
  split
  · rfl
  · split
    · simp; omega
    · split
      · simp; omega
      · simp
theorem sc_front0 (l : List Ins) : sc (J :: l) 0 = [1] := by
  unfold sc
  rw [gI_front0, kndJ]
  rfl
theorem ou_front (l : List Ins) (n S : Nat) : ou (J :: l) (n + 1) S = ou l n S := by unfold ou; rw [gI_front]
theorem ou_front0 (l : List Ins) (S : Nat) : ou (J :: l) 0 S = S := by unfold ou; rw [gI_front0, kndJ]; rfl
def up1 (st : Nat → Option Nat) : Nat → Option Nat
  | 0 => some 0
  | x + 1 => st x
theorem feed_up (L : List Nat) (st : Nat → Option Nat) (w : Nat) : Flow.feed (up1 st) w (L.map (· + 1)) = up1 (Flow.feed st w L) := by
  induction L generalizing st with
  | nil => rfl
  | cons j r ih =>
    show Flow.feed (fun x => if x = j + 1 then Flow.jn (up1 st (j + 1)) w else up1 st x) w (r.map (· + 1)) = up1 (Flow.feed (fun x => if x = j then Flow.jn (st j) w else st x) w r)
    rw [← ih]
    congr 1
    funext x
    cases x with
    | zero => simp [up1]
    | succ x => simp [up1]
theorem pst_front (l : List Ins) (k : Nat) : pst (J :: l) (k + 1) = up1 (pst l k) := by
  induction k with
  | zero =>
    have h0 : pst (J :: l) 0 0 = some 0 := rfl
    have : pst (J :: l) 1 = Flow.feed (pst (J :: l) 0) (ou (J :: l) 0 0) (sc (J :: l) 0) := Flow.stp_some h0
    show pst (J :: l) 1 = _
    rw [this, sc_front0, ou_front0]
    funext x
    match x with
    | 0 => rfl
    | 1 => rfl
    | x + 2 => simp [Flow.feed, up1, pst, Flow.pass]
  | succ k ih =>
    show Flow.stp (sc (J :: l)) (ou (J :: l)) (pst (J :: l) (k + 1)) (k + 1) = up1 (Flow.stp (sc l) (ou l) (pst l k) k)
    rw [ih]
    cases hs : pst l k k with
    | none =>
      rw [Flow.stp_none hs, Flow.stp_none (show up1 (pst l k) (k + 1) = none from hs)]
    | some S =>
      rw [Flow.stp_some hs, Flow.stp_some (show up1 (pst l k) (k + 1) = some S from hs), sc_front, ou_front, feed_up]
theorem bad_front (l : List Ins) (n : Nat) : bad (J :: l) (n + 1) = bad l n := by
  unfold bad
  rw [pst_front, gI_front]
  rfl
theorem bad_front0 (l : List Ins) : bad (J :: l) 0 = false := by
  have h0 : pst (J :: l) 0 0 = some 0 := rfl
  rw [bad_some h0, gI_front0, kndJ]
  rfl
theorem ft_front (l : List Ins) (n : Nat) : ft (J :: l) (n + 1) = ft l n := by
  unfold ft
  rw [gI_front, show ((J :: l).length : Int) - 1 - ((n + 1 : Nat) : Int) = (l.length : Int) - 1 - n by simp; omega]
theorem ft_front0 (l : List Ins) (h : 0 < l.length) : ft (J :: l) 0 = false := by
  have : flt J (((J :: l).length : Int) - 1 - ((0 : Nat) : Int)) = 0 := by
    unfold flt
    rw [kndJ, if_neg (by decide), if_pos rfl, if_neg (by show ¬ (((J :: l).length : Int) - 1 - ((0 : Nat) : Int) ≤ 0); rw [List.length_cons]; omega)]
  unfold ft
  rw [gI_front0, this]
  rfl
theorem uns_zero {l : List Ins} (h : (uns l).1 = 0) : ∀ j, j < l.length → bad l j = false := by
  intro j hj
  unfold uns at h
  cases hf : (List.range l.length).find? (bad l) with
  | some i => rw [hf] at h; cases h
  | none =>
    have := List.find?_eq_none.1 hf j (List.mem_range.2 hj)
    simpa using this
/-- All of what Check's OK says. -/
structure Fine (l : List Ins) : Prop where
  good : Good l
  set : ∀ j, j < l.length → bad l j = false
theorem Good.ft {l : List Ins} (h : Good l) : ∀ j, j < l.length → ft l j = false := fun j hj => by unfold Go.Proofs.Ytjgcfffepkmojaa.ft; rw [h.no j hj]; rfl
theorem Good.len {l : List Ins} (h : Good l) : ¬ (l.length = 0 ∨ 4096 < l.length) := by have := h.pos; have := h.le; omega
theorem fine_of {l : List Ins} (hok : ∀ x ∈ l, x.ok) (h : (chk l).1 = 0) : Fine l := by
  have hg := chk_good hok h
  refine ⟨hg, uns_zero ?_⟩
  rw [← chk_uns hg.len hg.ft hg.last]
  exact h
theorem Fine.chk {l : List Ins} (h : Fine l) : chk l = (0, 0) := by
  rw [chk_uns h.good.len h.good.ft h.good.last]
  exact uns_no h.set
theorem fine_front {l : List Ins} (h : Fine l) (hl : l.length < 4096) : Fine (J :: l) := by
  have hp := h.good.pos
  refine ⟨good_of (by simp; omega) ?_ ?_ ?_, ?_⟩
  · intro x hx
    rcases List.mem_cons.1 hx with e | e
    · rw [e]; exact ⟨⟨by decide, by decide⟩, ⟨by decide, by decide⟩, ⟨by decide, by decide⟩, ⟨by decide, by decide⟩⟩
    · exact h.good.ok x e
  · intro j hj
    cases j with
    | zero => exact ft_front0 l hp
    | succ j => rw [ft_front]; exact h.good.ft j (by simpa using hj)
  · have : (J :: l).length - 1 = (l.length - 1) + 1 := by simp; omega
    rw [this, gI_front]
    exact h.good.last
  · intro j hj
    cases j with
    | zero => exact bad_front0 l
    | succ j => rw [bad_front]; exact h.set j (by simpa using hj)

/-! ### and its run -/
def sh (m : Mc) : Mc := { m with pc := m.pc + 1 }
theorem ite_sh {c : Prop} [Decidable c] {p q p' q' : Mc} (h1 : p' = sh p) (h2 : q' = sh q) : (if c then p' else q') = sh (if c then p else q) := by
  by_cases h : c
  · rw [if_pos h, if_pos h, h1]
  · rw [if_neg h, if_neg h, h2]
theorem pc_eq {a x v : Int} {c : Nat → Int} {e : Bool} {p q : Nat} (h : p = q + 1) : (⟨a, x, c, p, e, v⟩ : Mc) = sh ⟨a, x, c, q, e, v⟩ := by rw [h]; rfl
theorem alu_sh (c k : Int) (i : Ins) (m : Mc) : alu c k i (sh m) = sh (alu c k i m) := by
  unfold alu
  repeat' (refine ite_sh ?_ ?_)
  all_goals first
    | rfl
    | exact pc_eq (by show m.pc + 1 + _ = m.pc + _ + 1; exact Nat.add_right_comm _ _ _)
theorem stp_sh (i : Ins) (r : ByteArray) (m : Mc) : stp i r (sh m) = sh (stp i r m) := by
  have hA : alu (low i.code) (if xb i.code then (sh m).x else i.k) i { sh m with pc := (sh m).pc + 1 } = sh (alu (low i.code) (if xb i.code then m.x else i.k) i { m with pc := m.pc + 1 }) := alu_sh _ _ _ _
  unfold stp
  rw [hA]
  generalize alu (low i.code) (if xb i.code then m.x else i.k) i { m with pc := m.pc + 1 } = q
  repeat' (refine ite_sh ?_ ?_)
  all_goals first
    | rfl
    | exact pc_eq (by show m.pc + 1 + 1 + _ = m.pc + 1 + _ + 1; exact Nat.add_right_comm _ _ _)
theorem stN_front (l : List Ins) (r : ByteArray) (n : Nat) : stN (J :: l) r (n + 1) = sh (stN l r n) := by
  induction n with
  | zero =>
    show stp (gI (J :: l) 0) r m0 = sh m0
    rw [gI_front0]
    simp [stp, J, m0, sh]
  | succ n ih =>
    show stp (gI (J :: l) (stN (J :: l) r (n + 1)).pc) r (stN (J :: l) r (n + 1)) = sh (stp (gI l (stN l r n).pc) r (stN l r n))
    rw [ih]
    show stp (gI (J :: l) ((stN l r n).pc + 1)) r (sh (stN l r n)) = _
    rw [gI_front, stp_sh]
theorem fin_bd {l : List Ins} (h : Good l) (r : ByteArray) : 1 ≤ fin l r ∧ fin l r ≤ l.length := by
  obtain ⟨N, h1, h2, h3, h4⟩ := stN_ends h r
  rw [fin_eq h2 h3 h4]
  exact ⟨h1, h2⟩
theorem run_front {l : List Ins} (h : Good l) (r : ByteArray) : fin (J :: l) r = fin l r + 1 ∧ ver (J :: l) r = ver l r := by
  obtain ⟨N, h1, h2, h3, h4⟩ := stN_ends h r
  have e1 := fin_eq h2 h3 h4
  have e2 : fin (J :: l) r = N + 1 := fin_eq (by simp; omega) (by rw [stN_front]; exact h3) (fun j hj => by
    cases j with
    | zero => rfl
    | succ j => rw [stN_front]; exact h4 j (by omega))
  refine ⟨by rw [e1, e2], ?_⟩
  unfold ver
  rw [e1, e2, stN_front]
  rfl
theorem runA_ok {l : List Ins} (h : (chk l).1 = 0) {r : ByteArray} (hr : r.size = 64) : runA l r = (ver l r, (fin l r : Int), 0) := by
  unfold runA
  rw [if_neg (by simp [h]), if_neg (by simp [hr])]
#print axioms run_front
end Go.Proofs.Ytjgcfffepkmojaa
