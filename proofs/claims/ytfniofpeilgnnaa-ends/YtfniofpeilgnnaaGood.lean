import Derived.Test.YtfniofpeilgnnaaFault
namespace Go.Proofs.Ytfniofpeilgnnaa
open Go.RowKit
set_option linter.unusedVariables false

def zI : Ins := ⟨0, 0, 0, 0⟩
def gI (l : List Ins) (i : Nat) : Ins := l.getD i zI
/-- Where an instruction may go on. -/
def sc (l : List Ins) (i : Nat) : List Nat :=
  if knd (gI l i).code = 9 then [] else if knd (gI l i).code = 2 then [i + 1 + (gI l i).k.toNat] else if knd (gI l i).code = 3 then [i + 1 + (gI l i).jt.toNat, i + 1 + (gI l i).jf.toNat] else [i + 1]
/-- The cells that are set behind it. -/
def ou (l : List Ins) (i S : Nat) : Nat := if knd (gI l i).code = 6 then S ||| 1 <<< (gI l i).k.toNat else S
abbrev pst (l : List Ins) (k : Nat) : Nat → Option Nat := Flow.pass (sc l) (ou l) k
/-- Nothing is wrong with the instructions one by one, and the last one ends. -/
structure Good (l : List Ins) : Prop where
  pos : 0 < l.length
  le : l.length ≤ 4096
  ok : ∀ x ∈ l, x.ok
  no : ∀ i, i < l.length → flt (gI l i) ((l.length : Int) - 1 - i) = 0
  last : knd (gI l (l.length - 1)).code = 9
theorem gI_eq (l : List Ins) (i : Nat) (h : i < l.length) : gI l i = l[i] := by simp [gI, List.getD, h]
theorem Good.gok {l : List Ins} (h : Good l) {i : Nat} (hi : i < l.length) : (gI l i).ok := by rw [gI_eq l i hi]; exact h.ok _ (List.getElem_mem hi)
theorem sc_fwd (l : List Ins) (i : Nat) : ∀ j ∈ sc l i, i < j := by
  intro j hj
  unfold sc at hj
  split at hj
  · cases hj
  · split at hj
    · simp at hj; omega
    · split at hj
      · simp at hj; omega
      · simp at hj; omega
theorem Good.cell {l : List Ins} (h : Good l) {i : Nat} (hi : i < l.length) (hk : knd (gI l i).code = 5 ∨ knd (gI l i).code = 6) : (gI l i).k < 16 := by
  have hn := h.no i hi
  unfold flt at hn
  rcases hk with hk | hk
  · rw [hk] at hn; simp at hn; omega
  · rw [hk] at hn; simp at hn; omega
theorem Good.jump {l : List Ins} (h : Good l) {i : Nat} (hi : i < l.length) (hk : knd (gI l i).code = 2) : (gI l i).k < (l.length : Int) - 1 - i := by
  have hn := h.no i hi
  unfold flt at hn
  rw [hk] at hn; simp at hn; omega
theorem Good.test {l : List Ins} (h : Good l) {i : Nat} (hi : i < l.length) (hk : knd (gI l i).code = 3) : (gI l i).jt < (l.length : Int) - 1 - i ∧ (gI l i).jf < (l.length : Int) - 1 - i := by
  have hn := h.no i hi
  unfold flt at hn
  rw [hk] at hn; simp at hn; omega
theorem Good.next {l : List Ins} (h : Good l) {i : Nat} (hi : i < l.length) (hk : knd (gI l i).code ≠ 9) : i + 1 < l.length := by
  rcases Nat.lt_or_ge (i + 1) l.length with h1 | h1
  · exact h1
  · have : i = l.length - 1 := by omega
    rw [this] at hk
    exact absurd h.last hk
theorem Good.sc_in {l : List Ins} (h : Good l) {i : Nat} (hi : i < l.length) : ∀ j ∈ sc l i, j < l.length := by
  intro j hj
  have ho := h.gok hi
  unfold sc at hj
  split at hj
  · cases hj
  · rename_i h9
    split at hj
    · rename_i h2
      have := h.jump hi h2
      have := ho.2.2.2
      simp at hj; omega
    · split at hj
      · rename_i h3
        have := h.test hi h3
        have := ho.2.1
        have := ho.2.2.1
        simp at hj; omega
      · have := h.next hi h9
        simp at hj; omega
theorem jn_lt {o : Option Nat} {w T : Nat} (ho : ∀ R, o = some R → R < 65536) (hw : w < 65536) (h : Flow.jn o w = some T) : T < 65536 := by
  cases o with
  | none => simp [Flow.jn] at h; omega
  | some R => simp only [Flow.jn, Option.some.injEq] at h; rw [← h]; exact Nat.lt_of_le_of_lt Nat.and_le_left (ho R rfl)
theorem feed_lt {st : Nat → Option Nat} {w : Nat} {r : List Nat} (hst : ∀ x R, st x = some R → R < 65536) (hw : w < 65536) : ∀ x R, Flow.feed st w r x = some R → R < 65536 := by
  induction r generalizing st with
  | nil => exact hst
  | cons j r ih =>
    refine ih (st := fun x => if x = j then Flow.jn (st j) w else st x) (fun x R hx => ?_)
    by_cases e : x = j
    · simp only [e, if_true] at hx; exact jn_lt (fun R hR => hst j R hR) hw hx
    · simp only [if_neg e] at hx; exact hst x R hx
theorem Good.ou_lt {l : List Ins} (h : Good l) {i S : Nat} (hi : i < l.length) (hS : S < 65536) : ou l i S < 65536 := by
  unfold ou
  split
  · rename_i h6
    exact orLt S _ hS (h.gok hi).2.2.2.1 (h.cell hi (.inr h6))
  · exact hS
theorem Good.lt {l : List Ins} (h : Good l) (k : Nat) (hk : k ≤ l.length) : ∀ x R, pst l k x = some R → R < 65536 := by
  induction k with
  | zero => intro x R hx; simp only [pst, Flow.pass] at hx; split at hx <;> simp at hx; omega
  | succ k ih =>
    intro x R hx
    have ih' := ih (by omega)
    have hx' : Flow.stp (sc l) (ou l) (pst l k) k x = some R := hx
    cases hs : pst l k k with
    | none => rw [Flow.stp_none hs] at hx'; exact ih' x R hx'
    | some S => rw [Flow.stp_some hs] at hx'; exact feed_lt ih' (h.ou_lt (by omega) (ih' k S hs)) x R hx'

/-- A load that finds its cell unset. -/
def bad (l : List Ins) (i : Nat) : Bool := match pst l i i with
  | none => false
  | some S => decide (knd (gI l i).code = 5) && !(S.testBit (gI l i).k.toNat)
def uns (l : List Ins) : Int × Int := match (List.range l.length).find? (bad l) with
  | some i => (9, (i : Int))
  | none => (0, 0)
theorem find_first (p : Nat → Bool) (n i : Nat) (hi : i < n) (hp : p i = true) (hb : ∀ j, j < i → p j = false) : (List.range n).find? p = some i := by
  rw [List.find?_eq_some_iff_append]
  refine ⟨hp, List.range i, (List.range (n - i - 1)).map (fun x => i + 1 + x), ?_, ?_⟩
  · rw [show n = i + (1 + (n - i - 1)) by omega, List.range_add, List.range_add]
    simp [Function.comp_def, Nat.add_assoc]
  · intro a ha
    have := hb a (List.mem_range.1 ha)
    simp [this]
theorem find_none (p : Nat → Bool) (n : Nat) (hb : ∀ j, j < n → p j = false) : (List.range n).find? p = none := by
  rw [List.find?_eq_none]
  intro x hx
  rw [hb x (List.mem_range.1 hx)]; simp

/-- What is known of n instructions, as cells. -/
def kr (st : Nat → Option Nat) : Nat → List Value
  | 0 => []
  | n + 1 => kr st n ++ kcs (st n)
theorem kcs_len (o : Option Nat) : (kcs o).length = 2 := by cases o <;> rfl
theorem kr_len (st : Nat → Option Nat) (n : Nat) : (kr st n).length = n * 2 := by
  induction n with
  | zero => rfl
  | succ n ih => simp [kr, ih, kcs_len]; omega
theorem kr_get (st : Nat → Option Nat) (n x j : Nat) (hx : x < n) (hj : j < 2) : (kr st n)[x * 2 + j]? = (kcs (st x))[j]? := by
  induction n with
  | zero => omega
  | succ n ih =>
    have hl := kr_len st n
    rw [kr]
    by_cases h : x < n
    · rw [List.getElem?_append_left (by omega)]; exact ih h
    · have : x = n := by omega
      subst this
      rw [List.getElem?_append_right (by omega), hl, Nat.add_sub_cancel_left]
theorem kr_set (st : Nat → Option Nat) (n x : Nat) (v : Option Nat) (a b : Value) (hx : x < n) (hv : kcs v = [a, b]) : ((kr st n).set (x * 2) a).set (x * 2 + 1) b = kr (fun y => if y = x then v else st y) n := by
  apply List.ext_getElem?
  intro j
  by_cases hj : j < n * 2
  · have h1 := kr_get st n (j / 2) (j % 2) (by omega) (Nat.mod_lt _ (by decide))
    have h2 := kr_get (fun y => if y = x then v else st y) n (j / 2) (j % 2) (by omega) (Nat.mod_lt _ (by decide))
    rw [show j / 2 * 2 + j % 2 = j by omega] at h1 h2
    rw [h2, List.getElem?_set, List.getElem?_set]
    by_cases e1 : x * 2 + 1 = j
    · rw [if_pos e1, if_pos (by simp [kr_len]; omega)]
      rw [if_pos (by omega), show j % 2 = 1 by omega, hv]; rfl
    · rw [if_neg e1]
      by_cases e0 : x * 2 = j
      · rw [if_pos e0, if_pos (by simp [kr_len]; omega)]
        rw [if_pos (by omega), show j % 2 = 0 by omega, hv]; rfl
      · rw [if_neg e0, if_neg (by omega)]; exact h1
  · rw [List.getElem?_eq_none (by simp [kr_len]; omega), List.getElem?_eq_none (by rw [kr_len]; omega)]
theorem kr_none (n : Nat) : kr (fun _ => none) n = rep [.bool false, .int .u16 0] n := by
  induction n with
  | zero => rfl
  | succ n ih => rw [kr, rep, ih]; rfl
#print axioms kr_set
end Go.Proofs.Ytfniofpeilgnnaa
