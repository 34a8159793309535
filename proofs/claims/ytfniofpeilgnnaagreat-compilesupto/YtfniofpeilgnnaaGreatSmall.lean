import Derived.Test.YtfniofpeilgnnaaGreatFront
namespace Go.Proofs.YtfniofpeilgnnaaGreat
open Go.RowKit
set_option linter.unusedVariables false

/-! ### Small programs -/
theorem fine_nocell {l : List Ins} (h : Good l) (hn : ∀ i, i < l.length → knd (gI l i).code ≠ 5) : Fine l :=
  ⟨h, fun j hj => by
    cases hs : pst l j j with
    | none => exact bad_none hs
    | some S => rw [bad_some hs, decide_eq_false (hn j hj)]; rfl⟩
theorem ver_of {l : List Ins} {r : ByteArray} (N : Nat) (hN : N ≤ l.length) {m : Mc} (hm : stN l r N = m) (he : m.e = true) (hb : ∀ j, j < N → (stN l r j).e = false) : ver l r = m.v := by
  unfold ver
  rw [fin_eq hN (by rw [hm]; exact he) hb, hm]
theorem lt5 {p : Nat → Prop} (h0 : p 0) (h1 : p 1) (h2 : p 2) (h3 : p 3) (h4 : p 4) : ∀ j, j < 5 → p j := fun j hj => by
  match j, hj with
  | 0, _ => exact h0
  | 1, _ => exact h1
  | 2, _ => exact h2
  | 3, _ => exact h3
  | 4, _ => exact h4
  | n + 5, h => exact absurd h (by omega)
theorem lt4 {p : Nat → Prop} (h0 : p 0) (h1 : p 1) (h2 : p 2) (h3 : p 3) : ∀ j, j < 4 → p j := fun j hj => by
  match j, hj with
  | 0, _ => exact h0
  | 1, _ => exact h1
  | 2, _ => exact h2
  | 3, _ => exact h3
  | n + 4, h => exact absurd h (by omega)
theorem lt3 {p : Nat → Prop} (h0 : p 0) (h1 : p 1) (h2 : p 2) : ∀ j, j < 3 → p j := fun j hj => by
  match j, hj with
  | 0, _ => exact h0
  | 1, _ => exact h1
  | 2, _ => exact h2
  | n + 3, h => exact absurd h (by omega)

def sumCodes : List Int := [4, 20, 36, 68, 84, 164, 100, 116, 52, 148]
/-- What each instruction that reckons gives. -/
def wantS (c a b : Int) : Int :=
  if c = 4 then (a + b) % 4294967296 else if c = 20 then (a - b) % 4294967296 else if c = 36 then a * b % 4294967296 else if c = 68 then bits .or .u32 a b else if c = 84 then bits .and .u32 a b
  else if c = 164 then bits .xor .u32 a b else if c = 100 then a * 2 ^ (b % 32).toNat % 4294967296 else if c = 116 then a / 2 ^ (b % 32).toNat else if c = 52 then (if b = 0 then 0 else a / b) else (if b = 0 then 0 else a % b)
def prX (c : Int) : List Ins := [⟨32, 0, 0, 4⟩, ⟨7, 0, 0, 0⟩, ⟨32, 0, 0, 0⟩, ⟨c + 8, 0, 0, 0⟩, ⟨22, 0, 0, 0⟩]
def prK (c b : Int) : List Ins := [⟨32, 0, 0, 0⟩, ⟨c, 0, 0, b⟩, ⟨22, 0, 0, 0⟩]
def prN : List Ins := [⟨32, 0, 0, 0⟩, ⟨132, 0, 0, 0⟩, ⟨22, 0, 0, 0⟩]
theorem ok_lit (c k : Int) (h0 : 0 ≤ c) (h1 : c < 65536) (h2 : 0 ≤ k) (h3 : k < 4294967296) : Ins.ok ⟨c, 0, 0, k⟩ := ⟨⟨h0, h1⟩, ⟨(show (0 : Int) ≤ 0 by decide), (show (0 : Int) < 256 by decide)⟩, ⟨(show (0 : Int) ≤ 0 by decide), (show (0 : Int) < 256 by decide)⟩, ⟨h2, h3⟩⟩
theorem sum_knd : ∀ c ∈ sumCodes, knd (c + 8) = 1 ∧ 0 ≤ c ∧ c < 200 ∧ xb (c + 8) = true ∧ xb c = false ∧ (c + 8 ∈ xCodes) := by decide
theorem prX_good (c : Int) (hc : c ∈ sumCodes) : Good (prX c) := by
  obtain ⟨hk, h0, h1, _⟩ := sum_knd c hc
  refine ⟨(show 0 < 5 by decide), by show 5 ≤ 4096; decide, ?_, ?_, by show knd 22 = 9; decide⟩
  · intro x hx
    simp only [prX, List.mem_cons, List.not_mem_nil, or_false] at hx
    rcases hx with rfl | rfl | rfl | rfl | rfl
    all_goals exact ok_lit _ _ (by omega) (by omega) (by decide) (by decide)
  · refine lt5 (show flt ⟨32, 0, 0, 4⟩ 4 = 0 by decide) (show flt ⟨7, 0, 0, 0⟩ 3 = 0 by decide) (show flt ⟨32, 0, 0, 0⟩ 2 = 0 by decide) ?_ (show flt ⟨22, 0, 0, 0⟩ 0 = 0 by decide)
    show flt ⟨c + 8, 0, 0, 0⟩ _ = 0
    unfold flt
    simp only [hk]
    rfl
theorem prX_fine (c : Int) (hc : c ∈ sumCodes) : Fine (prX c) := fine_nocell (prX_good c hc) (lt5 (show knd 32 ≠ 5 by decide) (show knd 7 ≠ 5 by decide) (show knd 32 ≠ 5 by decide) (by show knd (c + 8) ≠ 5; rw [(sum_knd c hc).1]; decide) (show knd 22 ≠ 5 by decide))
theorem prX_ver (c : Int) (hc : c ∈ sumCodes) (r : ByteArray) : ver (prX c) r = wantS c (wd r 0) (wd r 4) := by
  have s1 : stN (prX c) r 1 = ⟨wd r 4, 0, fun _ => 0, 1, false, 0⟩ := rfl
  have s2 : stN (prX c) r 2 = ⟨wd r 4, wd r 4, fun _ => 0, 2, false, 0⟩ := rfl
  have s3 : stN (prX c) r 3 = ⟨wd r 0, wd r 4, fun _ => 0, 3, false, 0⟩ := rfl
  have s4 : stN (prX c) r 4 = stp ⟨c + 8, 0, 0, 0⟩ r ⟨wd r 0, wd r 4, fun _ => 0, 3, false, 0⟩ := rfl
  generalize wd r 0 = a at s1 s2 s3 s4 ⊢
  generalize wd r 4 = b at s1 s2 s3 s4 ⊢
  have key : (stN (prX c) r 4 = ⟨wantS c a b, b, fun _ => 0, 4, false, 0⟩) ∨ (wantS c a b = 0 ∧ stN (prX c) r 4 = ⟨a, b, fun _ => 0, 4, true, 0⟩) := by
    rw [s4]
    simp only [sumCodes, List.mem_cons, List.not_mem_nil, or_false] at hc
    by_cases hb : b = 0
    · rcases hc with rfl | rfl | rfl | rfl | rfl | rfl | rfl | rfl | rfl | rfl
      all_goals first
        | exact .inl rfl
        | (right; subst hb; exact ⟨rfl, rfl⟩)
    · left
      rcases hc with rfl | rfl | rfl | rfl | rfl | rfl | rfl | rfl | rfl | rfl
      all_goals first
        | rfl
        | (simp [stp, alu, low, xb, xCodes, wantS, hb])
  rcases key with h4 | ⟨hw, h4⟩
  · have s5 : stN (prX c) r 5 = ⟨wantS c a b, b, fun _ => 0, 5, true, wantS c a b⟩ := by
      show stp (gI (prX c) (stN (prX c) r 4).pc) r (stN (prX c) r 4) = _
      rw [h4]; rfl
    exact ver_of (l := prX c) 5 (show 5 ≤ 5 by decide) s5 rfl (lt5 rfl (by rw [s1]) (by rw [s2]) (by rw [s3]) (by rw [h4]))
  · rw [hw]
    exact ver_of (l := prX c) 4 (show 4 ≤ 5 by decide) h4 rfl (lt4 rfl (by rw [s1]) (by rw [s2]) (by rw [s3]))
theorem prX_run (c : Int) (hc : c ∈ sumCodes) (r : ByteArray) (hr : r.size = 64) : runA (prX c) r = (wantS c (wd r 0) (wd r 4), (fin (prX c) r : Int), 0) ∧ 1 ≤ fin (prX c) r ∧ fin (prX c) r ≤ 5 :=
  ⟨by rw [runA_ok (by rw [(prX_fine c hc).chk]) hr, prX_ver c hc], fin_bd (prX_good c hc) r⟩

/-- With K: what is wrong with it, else what it gives. -/
theorem prK_ok (c b : Int) (hc : c ∈ sumCodes) (hb : U32 b) : ∀ x ∈ prK c b, x.ok := by
  obtain ⟨hk, h0, h1, _⟩ := sum_knd c hc
  intro x hx
  simp only [prK, List.mem_cons, List.not_mem_nil, or_false] at hx
  rcases hx with rfl | rfl | rfl
  · exact ok_lit _ _ (by decide) (by decide) (by decide) (by decide)
  · exact ok_lit _ _ h0 (by omega) hb.1 hb.2
  · exact ok_lit _ _ (by decide) (by decide) (by decide) (by decide)
theorem prK_bad (c b : Int) (hc : c ∈ sumCodes) (f : Int) (hf : f ≠ 0) (h : flt ⟨c, 0, 0, b⟩ 1 = f) : chk (prK c b) = (f, 1) := by
  have h1 : flt (gI (prK c b) 1) (((prK c b).length : Int) - 1 - ((1 : Nat) : Int)) = f := h
  have := chk_bad (l := prK c b) (show ¬ (3 = 0 ∨ 4096 < 3) by decide) 1 (show 1 < 3 by decide) (fun j hj => by rw [show j = 0 by omega]; show (flt ⟨32, 0, 0, 0⟩ 2 != 0) = false; decide) (by rw [h1]; exact hf)
  rw [h1] at this
  exact this
theorem prK_good (c b : Int) (hc : c ∈ sumCodes) (hb : U32 b) (h : flt ⟨c, 0, 0, b⟩ 1 = 0) : Good (prK c b) :=
  ⟨(show 0 < 3 by decide), by show 3 ≤ 4096; decide, prK_ok c b hc hb, lt3 (show flt ⟨32, 0, 0, 0⟩ 2 = 0 by decide) h (show flt ⟨22, 0, 0, 0⟩ 0 = 0 by decide), by show knd 22 = 9; decide⟩
theorem prK_fine (c b : Int) (hc : c ∈ sumCodes) (hb : U32 b) (h : flt ⟨c, 0, 0, b⟩ 1 = 0) : Fine (prK c b) :=
  fine_nocell (prK_good c b hc hb h) (lt3 (show knd 32 ≠ 5 by decide) (by
    show knd c ≠ 5
    simp only [sumCodes, List.mem_cons, List.not_mem_nil, or_false] at hc
    rcases hc with rfl | rfl | rfl | rfl | rfl | rfl | rfl | rfl | rfl | rfl <;> decide) (show knd 22 ≠ 5 by decide))
theorem prK_ver (c b : Int) (hc : c ∈ sumCodes) (h0 : (c = 52 ∨ c = 148) → b ≠ 0) (r : ByteArray) : ver (prK c b) r = wantS c (wd r 0) b := by
  have s1 : stN (prK c b) r 1 = ⟨wd r 0, 0, fun _ => 0, 1, false, 0⟩ := rfl
  have s2 : stN (prK c b) r 2 = stp ⟨c, 0, 0, b⟩ r ⟨wd r 0, 0, fun _ => 0, 1, false, 0⟩ := rfl
  generalize wd r 0 = a at s1 s2 ⊢
  have h2 : stN (prK c b) r 2 = ⟨wantS c a b, 0, fun _ => 0, 2, false, 0⟩ := by
    rw [s2]
    simp only [sumCodes, List.mem_cons, List.not_mem_nil, or_false] at hc
    rcases hc with rfl | rfl | rfl | rfl | rfl | rfl | rfl | rfl | rfl | rfl
    all_goals first
      | rfl
      | (have := h0 (by decide); simp [stp, alu, low, xb, xCodes, wantS, this])
  have s3 : stN (prK c b) r 3 = ⟨wantS c a b, 0, fun _ => 0, 3, true, wantS c a b⟩ := by
    show stp (gI (prK c b) (stN (prK c b) r 2).pc) r (stN (prK c b) r 2) = _
    rw [h2]; rfl
  exact ver_of (l := prK c b) 3 (show 3 ≤ 3 by decide) s3 rfl (lt3 rfl (by rw [s1]) (by rw [h2]))
theorem prK_nought (c : Int) (hc : c = 52 ∨ c = 148) : chk (prK c 0) = (6, 1) := by
  rcases hc with rfl | rfl <;> exact prK_bad _ 0 (by decide) 6 (by decide) (by decide)
theorem prK_shift (c b : Int) (hc : c = 100 ∨ c = 116) (hb : 31 < b) : chk (prK c b) = (7, 1) := by
  have : ∀ c, c = 100 ∨ c = 116 → flt ⟨c, 0, 0, b⟩ 1 = 7 := fun c hc => by
    have hk : knd c = 8 := by rcases hc with rfl | rfl <;> decide
    unfold flt
    simp only [hk]
    simp
    omega
  exact prK_bad c b (by rcases hc with rfl | rfl <;> decide) 7 (by decide) (this c hc)
theorem prK_run (c b : Int) (hc : c ∈ sumCodes) (hb : U32 b) (h0 : (c = 52 ∨ c = 148) → b ≠ 0) (h1 : (c = 100 ∨ c = 116) → b ≤ 31) (r : ByteArray) (hr : r.size = 64) :
    runA (prK c b) r = (wantS c (wd r 0) b, (fin (prK c b) r : Int), 0) ∧ 1 ≤ fin (prK c b) r ∧ fin (prK c b) r ≤ 3 := by
  have hf : flt ⟨c, 0, 0, b⟩ 1 = 0 := by
    have hc' := hc
    simp only [sumCodes, List.mem_cons, List.not_mem_nil, or_false] at hc'
    unfold flt
    rcases hc' with rfl | rfl | rfl | rfl | rfl | rfl | rfl | rfl | rfl | rfl
    all_goals first
      | (simp [knd, plainCodes, testCodes]; done)
      | (have := h0 (by decide); simp [knd, plainCodes, testCodes, this]; done)
      | (have := h1 (by decide); simp [knd, plainCodes, testCodes]; omega)
  exact ⟨by rw [runA_ok (by rw [(prK_fine c b hc hb hf).chk]) hr, prK_ver c b hc h0], fin_bd (prK_good c b hc hb hf) r⟩
theorem prN_good : Good prN := ⟨by decide, by decide, by
  intro x hx
  simp only [prN, List.mem_cons, List.not_mem_nil, or_false] at hx
  rcases hx with rfl | rfl | rfl <;> exact ok_lit _ _ (by decide) (by decide) (by decide) (by decide), lt3 (by decide) (by decide) (by decide), by decide⟩
theorem prN_run (r : ByteArray) (hr : r.size = 64) : runA prN r = (-wd r 0 % 4294967296, (fin prN r : Int), 0) ∧ 1 ≤ fin prN r ∧ fin prN r ≤ 3 := by
  have hv : ver prN r = -wd r 0 % 4294967296 := by
    have s1 : stN prN r 1 = ⟨wd r 0, 0, fun _ => 0, 1, false, 0⟩ := rfl
    have s2 : stN prN r 2 = ⟨-wd r 0 % 4294967296, 0, fun _ => 0, 2, false, 0⟩ := rfl
    have s3 : stN prN r 3 = ⟨-wd r 0 % 4294967296, 0, fun _ => 0, 3, true, -wd r 0 % 4294967296⟩ := rfl
    exact ver_of 3 (by decide) s3 rfl (lt3 rfl (by rw [s1]) (by rw [s2]))
  exact ⟨by rw [runA_ok (by rw [(fine_nocell prN_good (lt3 (by decide) (by decide) (by decide))).chk]) hr, hv], fin_bd prN_good r⟩
#print axioms prN_run
end Go.Proofs.YtfniofpeilgnnaaGreat
