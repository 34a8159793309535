import Derived.Test.YtjgcfffepkmojaaFront
namespace Go.Proofs.Ytjgcfffepkmojaa
open Go.RowKit
set_option linter.unusedVariables false

/-! ### Small programs -/
theorem fine_nocell {l : List Ins} (h : Good l) (hn : ∀ i, i < l.length → knd (gI l i).code ≠ 5) : Fine l :=
  ⟨h, fun j hj => by
    cases hs : pst l j j with
    | none => exact bad_none hs
    | some S => rw [bad_some hs, decide_eq_false (hn j hj)]; rfl⟩
theorem ver_of {l : List Ins} {r : ByteArray} (N : Nat) (hN : N ≤ l.length) {m : Mc} (hm : stN l r N = m) (he : m.e = true) (hb : ∀ j, j < N → (stN l r j).e = false) : ver l r = m.v := by
  unfold ver
  rw [fin_eq hN (by rw [hm]; exact he) hb, hm]
theorem lt5 {p : Nat → Prop} (h0 : p 0) (h1 : p 1) (h2 : p 2) (h3 : p 3) (h4 : p 4) : ∀ j, j < 5 → p j := fun j hj => by
  match j, hj with
  | 0, _ => exact h0
  | 1, _ => exact h1
  | 2, _ => exact h2
  | 3, _ => exact h3
  | 4, _ => exact h4
  | n + 5, h => exact absurd h (by omega)
theorem lt4 {p : Nat → Prop} (h0 : p 0) (h1 : p 1) (h2 : p 2) (h3 : p 3) : ∀ j, j < 4 → p j := fun j hj => by
  match j, hj with
  | 0, _ => exact h0
  | 1, _ => exact h1
  | 2, _ => exact h2
  | 3, _ => exact h3
  | n + 4, h => exact absurd h (by omega)
theorem lt3 {p : Nat → Prop} (h0 : p 0) (h1 : p 1) (h2 : p 2) : ∀ j, j < 3 → p j := fun j hj => by
  match j, hj with
  | 0, _ => exact h0
  | 1, _ => exact h1
  | 2, _ => exact h2
  | n + 3, h => exact absurd h (by omega)

def sumCodes : List Int := [4, 20, 36, 68, 84, 164, 100, 116, 52, 148]
/-- What each instruction that reckons gives. -/
def wantS (c a b : Int) : Int :=
  if c = 4 then (a + b) % 4294967296 else if c = 20 then (a - b) % 4294967296 else if c = 36 then a * b % 4294967296 else if c = 68 then bits .or .u32 a b else if c = 84 then bits .and .u32 a b
  else if c = 164 then bits .xor .u32 a b else if c = 100 then a * 2 ^ (b % 32).toNat % 4294967296 else if c = 116 then a / 2 ^ (b % 32).toNat else if c = 52 then (if b = 0 then 0 else a / b) else (if b = 0 then 0 else a % b)
def prX (c : Int) : List Ins := [⟨32, 0, 0, 4⟩, ⟨7, 0, 0, 0⟩, ⟨32, 0, 0, 0⟩, ⟨c + 8, 0, 0, 0⟩, ⟨22, 0, 0, 0⟩]
def prK (c b : Int) : List Ins := [⟨32, 0, 0, 0⟩, ⟨c, 0, 0, b⟩, ⟨22, 0, 0, 0⟩]
def prN : List Ins := [⟨32, 0, 0, 0⟩, ⟨132, 0, 0, 0⟩, ⟨22, 0, 0, 0⟩]
theorem ok_lit (c k : Int) (h0 : 0 ≤ c) (h1 : c < 65536) (h2 : 0 ≤ k) (h3 : k < 4294967296) : Ins.ok ⟨c, 0, 0, k⟩ := ⟨⟨h0, h1⟩, ⟨(show (0 : Int) ≤ 0 by decide), (show (0 : Int) < 256 by decide)⟩, ⟨(show (0 : Int) ≤ 0 by decide), (show (0 : Int) < 256 by decide)⟩, ⟨h2, h3⟩⟩
theorem sum_knd : ∀ c ∈ sumCodes, knd (c + 8) = 1 ∧ 0 ≤ c ∧ c < 200 ∧ xb (c + 8) = true ∧ xb c = false ∧ (c + 8 ∈ xCodes) := by decide
theorem prX_good (c : Int) (hc : c ∈ sumCodes) : Good (prX c) := by
  obtain ⟨hk, h0, h1, _⟩ := sum_knd c hc
  refine ⟨(show 0 < 5 by decide), by show 5 ≤ 4096; decide, ?_, ?_, by show knd 22 = 9; decide⟩
  · intro x hx
    simp only [prX, List.mem_cons, List.not_mem_nil, or_false] at hx
    rcases hx with rfl | rfl | rfl | rfl | rfl
    all_goals exact ok_lit _ _ (by omega) (by omega) (by decide) (by decide)
  · refine lt5 (show flt ⟨32, 0, 0, 4⟩ 4 = 0 by decide) (show flt ⟨7, 0, 0, 0⟩ 3 = 0 by decide) (show flt ⟨32, 0, 0, 0⟩ 2 = 0 by decide) ?_ (show flt ⟨22, 0, 0, 0⟩ 0 = 0 by decide)
    show flt ⟨c + 8, 0, 0, 0⟩ _ = 0
    unfold flt
    simp only [hk]
    rfl
theorem prX_fine (c : Int) (hc : c ∈ sumCodes) : Fine (prX c) := fine_nocell (prX_good c hc) (lt5 (show knd 32 ≠ 5 by decide) (show knd 7 ≠ 5 by decide) (show knd 32 ≠ 5 by decide) (by show knd (c + 8) ≠ 5; rw [(sum_knd c hc).1]; decide) (show knd 22 ≠ 5 by decide))
theorem prX_ver (c : Int) (hc : c ∈ sumCodes) (r : ByteArray) : ver (prX c) r = wantS c (wd r 0) (wd r 4) := by
  have s1 : stN (prX c) r 1 = ⟨wd r 4, 0, fun _ => 0, 1, false, 0⟩ := rfl
  have s2 : stN (prX c) r 2 = ⟨wd r 4, wd r 4, fun _ => 0, 2, false, 0⟩ := rfl
  have s3 : stN (prX c) r 3 = ⟨wd r 0, wd r 4, fun _ => 0, 3, false, 0⟩ := rfl
  have s4 : stN (prX c) r 4 = stp ⟨c + 8, 0, 0, 0⟩ r ⟨wd r 0, wd r 4, fun _ => 0, 3, false, 0⟩ := rfl
  generalize wd r 0 = a at s1 s2 s3 s4 ⊢
  generalize wd r 4 = b at s1 s2 s3 s4 ⊢
  have key : (stN (prX c) r 4 = ⟨wantS c a b, b, fun _ => 0, 4, false, 0⟩) ∨ (wantS c a b = 0 ∧ stN (prX c) r 4 = ⟨a, b, fun _ => 0, 4, true, 0⟩) := by
    rw [s4]
    simp only [sumCodes, List.mem_cons, List.not_mem_nil, or_false] at hc
    by_cases hb : b = 0
    · rcases hc with rfl | rfl | rfl | rfl | rfl | rfl | rfl | rfl | rfl | rfl
      all_goals first
        | exact .inl rfl
        | (right; subst hb; exact ⟨rfl, rfl⟩)
    · left
      rcases hc with rfl | rfl | rfl | rfl | rfl | rfl | rfl | rfl | rfl | rfl
      all_goals first
        | rfl
        | (simp [stp, alu, low, xb, xCodes, wantS, hb])
  rcases key with h4 | ⟨hw, h4⟩
  · have s5 : stN (prX c) r 5 = ⟨wantS c a b, b, fun _ => 0, 5, true, wantS c a b⟩ := by
      show stp (gI (prX c) (stN (prX c) r 4).pc) r (stN (prX c) r 4) = _
      rw [h4]; rfl
    exact ver_of (l := prX c) 5 (show 5 ≤ 5 by decide) s5 rfl (lt5 rfl (by rw [s1]) (by rw [s2]) (by rw [s3]) (by rw [h4]))
  · rw [hw]
    exact ver_of (l := prX c) 4 (show 4 ≤ 5 by decide) h4 rfl (lt4 rfl (by rw [s1]) (by rw [s2]) (by rw [s3]))
theorem prX_run (c : Int) (hc : c ∈ sumCodes) (r : ByteArray) (hr : r.size = 64) : runA (prX c) r = (wantS c (wd r 0) (wd r 4), (fin (prX c) r : Int), 0) ∧ 1 ≤ fin (prX c) r ∧ fin (prX c) r ≤ 5 :=
  ⟨by rw [runA_ok (by rw [(prX_fine c hc).chk]) hr, prX_ver c hc], fin_bd (prX_good c hc) r⟩

/-- With K: what is wrong with it, else what it gives. -/
theorem prK_ok (c b : Int) (hc : c ∈ sumCodes) (hb : U32 b) : ∀ x ∈ prK c b, x.ok := by
  obtain ⟨hk, h0, h1, _⟩ := sum_knd c hc
  intro x hx
  simp only [prK, List.mem_cons, List.not_mem_nil, or_false] at hx
  rcases hx with rfl | rfl | rfl
  · exact ok_lit _ _ (by decide) (by decide) (by decide) (by decide)
  · exact ok_lit _ _ h0 (by omega) hb.1 hb.2
  · exact ok_lit _ _ (by decide) (by decide) (by decide) (by decide)
theorem prK_bad (c b : Int) (hc : c ∈ sumCodes) (f : Int) (hf : f ≠ 0) (h : flt ⟨c, 0, 0, b⟩ 1 = f) : chk (prK c b) = (f, 1) := by
  have h1 : flt (gI (prK c b) 1) (((prK c b).length : Int) - 1 - ((1 : Nat) : Int)) = f := h
  have := chk_bad (l := prK c b) (show ¬ (3 = 0 ∨ 4096 < 3) by decide) 1 (show 1 < 3 by decide) (fun j hj => by rw [show j = 0 by omega]; show (flt ⟨32, 0, 0, 0⟩ 2 != 0) = false; decide) (by rw [h1]; exact hf)
  rw [h1] at this
  exact this
theorem prK_good (c b : Int) (hc : c ∈ sumCodes) (hb : U32 b) (h : flt ⟨c, 0, 0, b⟩ 1 = 0) : Good (prK c b) :=
  ⟨(show 0 < 3 by decide), by show 3 ≤ 4096; decide, prK_ok c b hc hb, lt3 (show flt ⟨32, 0, 0, 0⟩ 2 = 0 by decide) h (show flt ⟨22, 0, 0, 0⟩ 0 = 0 by decide), by show knd 22 = 9; decide⟩
theorem prK_fine (c b : Int) (hc : c ∈ sumCodes) (hb : U32 b) (h : flt ⟨c, 0, 0, b⟩ 1 = 0) : Fine (prK c b) :=
  fine_nocell (prK_good c b hc hb h) (lt3 (show knd 32 ≠ 5 by decide) (by
    show knd c ≠ 5
    simp only [sumCodes, List.mem_cons, List.not_mem_nil, or_false] at hc
    rcases hc with rfl | rfl | rfl | rfl | rfl | rfl | rfl | rfl | rfl | rfl <;> decide) (show knd 22 ≠ 5 by decide))
theorem prK_ver (c b : Int) (hc : c ∈ sumCodes) (h0 : (c = 52 ∨ c = 148) → b ≠ 0) (r : ByteArray) : ver (prK c b) r = wantS c (wd r 0) b := by
  have s1 : stN (prK c b) r 1 = ⟨wd r 0, 0, fun _ => 0, 1, false, 0⟩ := rfl
  have s2 : stN (prK c b) r 2 = stp ⟨c, 0, 0, b⟩ r ⟨wd r 0, 0, fun _ => 0, 1, false, 0⟩ := rfl
  generalize wd r 0 = a at s1 s2 ⊢
  have h2 : stN (prK c b) r 2 = ⟨wantS c a b, 0, fun _ => 0, 2, false, 0⟩ := by
    rw [s2]
    simp only [sumCodes, List.mem_cons, List.not_mem_nil, or_false] at hc
    rcases hc with rfl | rfl | rfl | rfl | rfl | rfl | rfl | rfl | rfl | rfl
    all_goals first
      | rfl
      | (have := h0 (by decide); simp [stp, alu, low, xb, xCodes, wantS, this])
  have s3 : stN (prK c b) r 3 = ⟨wantS c a b, 0, fun _ => 0, 3, true, wantS c a b⟩ := by
    show stp (gI (prK c b) (stN (prK c b) r 2).pc) r (stN (prK c b) r 2) = _
    rw [h2]; rfl
  exact ver_of (l := prK c b) 3 (show 3 ≤ 3 by decide) s3 rfl (lt3 rfl (by rw [s1]) (by rw [h2]))
theorem prK_nought (c : Int) (hc : c = 52 ∨ c = 148) : chk (prK c 0) = (6, 1) := by
  rcases hc with rfl | rfl <;> exact prK_bad _ 0 (by decide) 6 (by decide) (by decide)
theorem prK_shift (c b : Int) (hc : c = 100 ∨ c = 116) (hb : 31 < b) : chk (prK c b) = (7, 1) := by
  have : ∀ c, c = 100 ∨ c = 116 → flt ⟨c, 0, 0, b⟩ 1 = 7 := fun c hc => by
    have hk : knd c = 8 := by rcases hc with rfl | rfl <;> decide
    unfold flt
    simp only [hk]
    simp
    omega
  exact prK_bad c b (by rcases hc with rfl | rfl <;> decide) 7 (by decide) (this c hc)
theorem prK_run (c b : Int) (hc : c ∈ sumCodes) (hb : U32 b) (h0 : (c = 52 ∨ c = 148) → b ≠ 0) (h1 : (c = 100 ∨ c = 116) → b ≤ 31) (r : ByteArray) (hr : r.size = 64) :
    runA (prK c b) r = (wantS c (wd r 0) b, (fin (prK c b) r : Int), 0) ∧ 1 ≤ fin (prK c b) r ∧ fin (prK c b) r ≤ 3 := by
  have hf : flt ⟨c, 0, 0, b⟩ 1 = 0 := by
    have hc' := hc
    simp only [sumCodes, List.mem_cons, List.not_mem_nil, or_false] at hc'
    unfold flt
    rcases hc' with rfl | rfl | rfl | rfl | rfl | rfl | rfl | rfl | rfl | rfl
    all_goals first
      | (simp [knd, plainCodes, testCodes]; done)
      | (have := h0 (by decide); simp [knd, plainCodes, testCodes, this]; done)
      | (have := h1 (by decide); simp [knd, plainCodes, testCodes]; omega)
  exact ⟨by rw [runA_ok (by rw [(prK_fine c b hc hb hf).chk]) hr, prK_ver c b hc h0], fin_bd (prK_good c b hc hb hf) r⟩
theorem prN_good : Good prN := ⟨by decide, by decide, by
  intro x hx
  simp only [prN, List.mem_cons, List.not_mem_nil, or_false] at hx
  rcases hx with rfl | rfl | rfl <;> exact ok_lit _ _ (by decide) (by decide) (by decide) (by decide), lt3 (by decide) (by decide) (by decide), by decide⟩
theorem prN_run (r : ByteArray) (hr : r.size = 64) : runA prN r = (-wd r 0 % 4294967296, (fin prN r : Int), 0) ∧ 1 ≤ fin prN r ∧ fin prN r ≤ 3 := by
  have hv : ver prN r = -wd r 0 % 4294967296 := by
    have s1 : stN prN r 1 = ⟨wd r 0, 0, fun _ => 0, 1, false, 0⟩ := rfl
    have s2 : stN prN r 2 = ⟨-wd r 0 % 4294967296, 0, fun _ => 0, 2, false, 0⟩ := rfl
    have s3 : stN prN r 3 = ⟨-wd r 0 % 4294967296, 0, fun _ => 0, 3, true, -wd r 0 % 4294967296⟩ := rfl
    exact ver_of 3 (by decide) s3 rfl (lt3 rfl (by rw [s1]) (by rw [s2]))
  exact ⟨by rw [runA_ok (by rw [(fine_nocell prN_good (lt3 (by decide) (by decide) (by decide))).chk]) hr, hv], fin_bd prN_good r⟩
#print axioms prN_run
end Go.Proofs.Ytjgcfffepkmojaa

namespace Go.Proofs.Ytjgcfffepkmojaa
open Go.RowKit
set_option linter.unusedVariables false

/-! ### Tests -/
def rets : List Ins := (List.range 256).map (fun j : Nat => (⟨6, 0, 0, (j : Int)⟩ : Ins))
def prT (i : Ins) : List Ins := [⟨32, 0, 0, 4⟩, ⟨7, 0, 0, 0⟩, ⟨32, 0, 0, 0⟩, i] ++ rets
theorem rets_len : rets.length = 256 := by simp [rets]
theorem prT_len (i : Ins) : (prT i).length = 260 := by simp [prT, rets_len]
theorem prT_get (i : Ins) (j : Nat) (hj : j < 256) : gI (prT i) (4 + j) = ⟨6, 0, 0, (j : Int)⟩ := by
  rw [gI_eq _ _ (by rw [prT_len]; omega)]
  unfold prT
  rw [List.getElem_append_right (by simp)]
  simp [rets]
theorem prT_all {p : Nat → Ins → Prop} (i : Ins) (h0 : p 0 ⟨32, 0, 0, 4⟩) (h1 : p 1 ⟨7, 0, 0, 0⟩) (h2 : p 2 ⟨32, 0, 0, 0⟩) (h3 : p 3 i) (hr : ∀ j, j < 256 → p (4 + j) ⟨6, 0, 0, (j : Int)⟩) : ∀ n, n < (prT i).length → p n (gI (prT i) n) := by
  intro n hn
  rw [prT_len] at hn
  match n, hn with
  | 0, _ => exact h0
  | 1, _ => exact h1
  | 2, _ => exact h2
  | 3, _ => exact h3
  | n + 4, h =>
    rw [show n + 4 = 4 + n by omega, prT_get i n (by omega)]
    exact hr n (by omega)
theorem ret_flt (k left : Int) : flt ⟨6, 0, 0, k⟩ left = 0 := by
  have : knd 6 = 9 := by decide
  unfold flt
  simp only [this]
  rfl
theorem prT_good (i : Ins) (hi : i.ok) (hf : flt i 256 = 0) : Good (prT i) := by
  refine ⟨by rw [prT_len]; decide, by rw [prT_len]; decide, ?_, ?_, ?_⟩
  · intro x hx
    obtain ⟨n, hn, rfl⟩ := List.getElem_of_mem hx
    rw [← gI_eq _ _ hn]
    exact prT_all (p := fun _ x => x.ok) i (ok_lit _ _ (by decide) (by decide) (by decide) (by decide)) (ok_lit _ _ (by decide) (by decide) (by decide) (by decide)) (ok_lit _ _ (by decide) (by decide) (by decide) (by decide)) hi (fun j hj => ok_lit _ _ (by decide) (by decide) (by omega) (by omega)) n hn
  · rw [prT_len]
    intro n hn
    exact prT_all (p := fun n x => flt x (((260 : Nat) : Int) - 1 - (n : Int)) = 0) i (by decide) (by decide) (by decide) (by simpa using hf) (fun j hj => ret_flt _ _) n (by rw [prT_len]; exact hn)
  · rw [prT_len, show 260 - 1 = 4 + 255 from rfl, prT_get i 255 (by decide)]
    decide
theorem prT_fine (i : Ins) (hi : i.ok) (hf : flt i 256 = 0) (hk : knd i.code = 3) : Fine (prT i) :=
  fine_nocell (prT_good i hi hf) (prT_all (p := fun _ x => knd x.code ≠ 5) i (by decide) (by decide) (by decide) (by rw [hk]; decide) (fun j hj => by show knd 6 ≠ 5; decide))
theorem prT_ver (i : Ins) (r : ByteArray) (t : Nat) (ht : t < 256) (hs : stp i r ⟨wd r 0, wd r 4, fun _ => 0, 3, false, 0⟩ = ⟨wd r 0, wd r 4, fun _ => 0, 4 + t, false, 0⟩) : ver (prT i) r = (t : Int) := by
  have s1 : stN (prT i) r 1 = ⟨wd r 4, 0, fun _ => 0, 1, false, 0⟩ := rfl
  have s2 : stN (prT i) r 2 = ⟨wd r 4, wd r 4, fun _ => 0, 2, false, 0⟩ := rfl
  have s3 : stN (prT i) r 3 = ⟨wd r 0, wd r 4, fun _ => 0, 3, false, 0⟩ := rfl
  have s4 : stN (prT i) r 4 = ⟨wd r 0, wd r 4, fun _ => 0, 4 + t, false, 0⟩ := hs
  have s5 : stN (prT i) r 5 = ⟨wd r 0, wd r 4, fun _ => 0, 4 + t + 1, true, (t : Int)⟩ := by
    show stp (gI (prT i) (stN (prT i) r 4).pc) r (stN (prT i) r 4) = _
    rw [s4]
    show stp (gI (prT i) (4 + t)) r _ = _
    rw [prT_get i t ht]
    rfl
  exact ver_of (l := prT i) 5 (by rw [prT_len]; decide) s5 rfl (lt5 rfl (by rw [s1]) (by rw [s2]) (by rw [s3]) (by rw [s4]))
def tstCodes : List Int := [21, 37, 53, 69]
theorem tst_knd : ∀ c ∈ tstCodes, knd c = 3 ∧ knd (c + 8) = 3 ∧ 0 ≤ c ∧ c < 100 := by decide
theorem tst_flt (c jt jf k : Int) (hk : knd c = 3) (h1 : jt < 256) (h2 : jf < 256) : flt ⟨c, jt, jf, k⟩ 256 = 0 := by
  unfold flt
  simp only [hk]
  simp
  omega
theorem way_lt (b : Bool) (jt jf : Int) (h1 : 0 ≤ jt ∧ jt < 256) (h2 : 0 ≤ jf ∧ jf < 256) : (if b then jt else jf).toNat < 256 ∧ (((if b then jt else jf).toNat : Nat) : Int) = (if b then jt else jf) := by
  cases b <;> simp <;> omega
theorem prT_X (c jt jf : Int) (hc : c ∈ tstCodes) (h1 : 0 ≤ jt ∧ jt < 256) (h2 : 0 ≤ jf ∧ jf < 256) (r : ByteArray) (hr : r.size = 64) :
    runA (prT ⟨c + 8, jt, jf, 0⟩) r = (if tst c (wd r 0) (wd r 4) then jt else jf, (fin (prT ⟨c + 8, jt, jf, 0⟩) r : Int), 0) ∧ 1 ≤ fin (prT ⟨c + 8, jt, jf, 0⟩) r ∧ fin (prT ⟨c + 8, jt, jf, 0⟩) r ≤ 260 := by
  obtain ⟨hk, hk8, hc0, hc1⟩ := tst_knd c hc
  have hi : Ins.ok ⟨c + 8, jt, jf, 0⟩ := ⟨⟨(show 0 ≤ c + 8 by omega), (show c + 8 < 65536 by omega)⟩, h1, h2, ⟨(show (0 : Int) ≤ 0 by decide), (show (0 : Int) < 4294967296 by decide)⟩⟩
  have hf := tst_flt (c + 8) jt jf 0 hk8 h1.2 h2.2
  have hs : stp ⟨c + 8, jt, jf, 0⟩ r ⟨wd r 0, wd r 4, fun _ => 0, 3, false, 0⟩ = ⟨wd r 0, wd r 4, fun _ => 0, 4 + (if tst c (wd r 0) (wd r 4) then jt else jf).toNat, false, 0⟩ := by
    simp only [tstCodes, List.mem_cons, List.not_mem_nil, or_false] at hc
    rcases hc with rfl | rfl | rfl | rfl <;> rfl
  have hw := way_lt (tst c (wd r 0) (wd r 4)) jt jf h1 h2
  have hb := fin_bd (prT_good _ hi hf) r
  rw [prT_len] at hb
  exact ⟨by rw [runA_ok (by rw [(prT_fine _ hi hf hk8).chk]) hr, prT_ver _ r _ hw.1 hs, hw.2], hb⟩
theorem prT_K (c jt jf b : Int) (hc : c ∈ tstCodes) (h1 : 0 ≤ jt ∧ jt < 256) (h2 : 0 ≤ jf ∧ jf < 256) (hb : U32 b) (r : ByteArray) (hr : r.size = 64) :
    runA (prT ⟨c, jt, jf, b⟩) r = (if tst c (wd r 0) b then jt else jf, (fin (prT ⟨c, jt, jf, b⟩) r : Int), 0) ∧ 1 ≤ fin (prT ⟨c, jt, jf, b⟩) r ∧ fin (prT ⟨c, jt, jf, b⟩) r ≤ 260 := by
  obtain ⟨hk, hk8, hc0, hc1⟩ := tst_knd c hc
  have hi : Ins.ok ⟨c, jt, jf, b⟩ := ⟨⟨hc0, (show c < 65536 by omega)⟩, h1, h2, hb⟩
  have hf := tst_flt c jt jf b hk h1.2 h2.2
  have hs : stp ⟨c, jt, jf, b⟩ r ⟨wd r 0, wd r 4, fun _ => 0, 3, false, 0⟩ = ⟨wd r 0, wd r 4, fun _ => 0, 4 + (if tst c (wd r 0) b then jt else jf).toNat, false, 0⟩ := by
    simp only [tstCodes, List.mem_cons, List.not_mem_nil, or_false] at hc
    rcases hc with rfl | rfl | rfl | rfl <;> rfl
  have hw := way_lt (tst c (wd r 0) b) jt jf h1 h2
  have hbd := fin_bd (prT_good _ hi hf) r
  rw [prT_len] at hbd
  exact ⟨by rw [runA_ok (by rw [(prT_fine _ hi hf hk).chk]) hr, prT_ver _ r _ hw.1 hs, hw.2], hbd⟩

/-! ### Cells -/
theorem lt7 {p : Nat → Prop} (h0 : p 0) (h1 : p 1) (h2 : p 2) (h3 : p 3) (h4 : p 4) (h5 : p 5) (h6 : p 6) : ∀ j, j < 7 → p j := fun j hj => by
  match j, hj with
  | 0, _ => exact h0
  | 1, _ => exact h1
  | 2, _ => exact h2
  | 3, _ => exact h3
  | 4, _ => exact h4
  | 5, _ => exact h5
  | 6, _ => exact h6
  | n + 7, h => exact absurd h (by omega)
def prC (c d : Nat) : List Ins := [⟨32, 0, 0, 0⟩, ⟨2, 0, 0, (c : Int)⟩, ⟨32, 0, 0, 4⟩, ⟨3, 0, 0, (d : Int)⟩, ⟨97, 0, 0, (c : Int)⟩, ⟨135, 0, 0, 0⟩, ⟨22, 0, 0, 0⟩]
def prM (c k : Nat) : List Ins := [⟨32, 0, 0, 4⟩, ⟨69, 2, 0, 1⟩, ⟨2, 0, 0, (c : Int)⟩, ⟨5, 0, 0, 1⟩, ⟨2, 0, 0, (k : Int)⟩, ⟨96, 0, 0, (c : Int)⟩, ⟨22, 0, 0, 0⟩]
theorem cell_flt (code left : Int) (c : Nat) (hc : c < 16) (hk : knd code = 5 ∨ knd code = 6) : flt ⟨code, 0, 0, (c : Int)⟩ left = 0 := by
  unfold flt
  rcases hk with hk | hk
  · simp only [hk]; simp; omega
  · simp only [hk]; simp; omega
theorem prC_good (c d : Nat) (hc : c < 16) (hd : d < 16) : Good (prC c d) := by
  refine ⟨(show 0 < 7 by decide), (show 7 ≤ 4096 by decide), ?_, ?_, (show knd 22 = 9 by decide)⟩
  · intro x hx
    simp only [prC, List.mem_cons, List.not_mem_nil, or_false] at hx
    rcases hx with rfl | rfl | rfl | rfl | rfl | rfl | rfl
    all_goals exact ok_lit _ _ (by decide) (by decide) (by omega) (by omega)
  · exact lt7 (show flt ⟨32, 0, 0, 0⟩ 6 = 0 by decide) (cell_flt 2 _ c hc (by decide)) (show flt ⟨32, 0, 0, 4⟩ 4 = 0 by decide) (cell_flt 3 _ d hd (by decide)) (cell_flt 97 _ c hc (by decide)) (show flt ⟨135, 0, 0, 0⟩ 1 = 0 by decide) (show flt ⟨22, 0, 0, 0⟩ 0 = 0 by decide)
theorem prM_good (c k : Nat) (hc : c < 16) (hk : k < 16) : Good (prM c k) := by
  refine ⟨(show 0 < 7 by decide), (show 7 ≤ 4096 by decide), ?_, ?_, (show knd 22 = 9 by decide)⟩
  · intro x hx
    simp only [prM, List.mem_cons, List.not_mem_nil, or_false] at hx
    rcases hx with rfl | rfl | rfl | rfl | rfl | rfl | rfl
    · exact ok_lit _ _ (by decide) (by decide) (by decide) (by decide)
    · exact ⟨⟨by decide, by decide⟩, ⟨by decide, by decide⟩, ⟨by decide, by decide⟩, ⟨by decide, by decide⟩⟩
    all_goals exact ok_lit _ _ (by decide) (by decide) (by omega) (by omega)
  · exact lt7 (show flt ⟨32, 0, 0, 4⟩ 6 = 0 by decide) (show flt ⟨69, 2, 0, 1⟩ 5 = 0 by decide) (cell_flt 2 _ c hc (by decide)) (show flt ⟨5, 0, 0, 1⟩ 3 = 0 by decide) (cell_flt 2 _ k hk (by decide)) (cell_flt 96 _ c hc (by decide)) (show flt ⟨22, 0, 0, 0⟩ 0 = 0 by decide)
theorem bit_two (c d : Nat) : ((0 ||| 1 <<< c) ||| 1 <<< d).testBit c = true := by simp [Nat.testBit_or, Nat.shiftLeft_eq, Nat.testBit_two_pow]
theorem bit_meet (c k : Nat) : ((0 ||| 1 <<< c) &&& (0 ||| 1 <<< k)).testBit c = decide (k = c) := by simp [Nat.testBit_and, Nat.shiftLeft_eq, Nat.testBit_two_pow]
theorem nocell {l : List Ins} {n : Nat} (h : knd (gI l n).code ≠ 5) : bad l n = false := by
  cases hs : pst l n n with
  | none => exact bad_none hs
  | some S => rw [bad_some hs, decide_eq_false h]; rfl
theorem prC_fine (c d : Nat) (hc : c < 16) (hd : d < 16) : Fine (prC c d) := by
  refine ⟨prC_good c d hc hd, ?_⟩
  have hp : pst (prC c d) 4 4 = some ((0 ||| 1 <<< c) ||| 1 <<< d) := rfl
  exact lt7 (nocell (show knd 32 ≠ 5 by decide)) (nocell (show knd 2 ≠ 5 by decide)) (nocell (show knd 32 ≠ 5 by decide)) (nocell (show knd 3 ≠ 5 by decide)) (by
    rw [bad_some hp]
    show (decide (knd 97 = 5) && !(((0 ||| 1 <<< c) ||| 1 <<< d).testBit c)) = false
    rw [bit_two]; rfl) (nocell (show knd 135 ≠ 5 by decide)) (nocell (show knd 22 ≠ 5 by decide))
theorem prM_bad (c k : Nat) : bad (prM c k) 5 = !decide (k = c) := by
  have hp : pst (prM c k) 5 5 = some ((0 ||| 1 <<< c) &&& (0 ||| 1 <<< k)) := rfl
  rw [bad_some hp]
  show (decide (knd 96 = 5) && !(((0 ||| 1 <<< c) &&& (0 ||| 1 <<< k)).testBit c)) = _
  rw [bit_meet]; rfl
theorem prM_chk (c k : Nat) (hc : c < 16) (hk : k < 16) : chk (prM c k) = if k = c then (0, 0) else (9, 5) := by
  have hg := prM_good c k hc hk
  rw [chk_uns hg.len hg.ft hg.last]
  by_cases h : k = c
  · rw [if_pos h]
    exact uns_no (lt7 (nocell (show knd 32 ≠ 5 by decide)) (nocell (show knd 69 ≠ 5 by decide)) (nocell (show knd 2 ≠ 5 by decide)) (nocell (show knd 5 ≠ 5 by decide)) (nocell (show knd 2 ≠ 5 by decide)) (by rw [prM_bad]; simp [h]) (nocell (show knd 22 ≠ 5 by decide)))
  · rw [if_neg h]
    exact uns_at (i := 5) (show 5 < 7 by decide) (by rw [prM_bad]; simp [h]) (lt5 (nocell (show knd 32 ≠ 5 by decide)) (nocell (show knd 69 ≠ 5 by decide)) (nocell (show knd 2 ≠ 5 by decide)) (nocell (show knd 5 ≠ 5 by decide)) (nocell (show knd 2 ≠ 5 by decide)))
theorem prC_run (c d : Nat) (hc : c < 16) (hd : d < 16) (r : ByteArray) (hr : r.size = 64) :
    runA (prC c d) r = (if c = d then 0 else wd r 0, (fin (prC c d) r : Int), 0) ∧ 1 ≤ fin (prC c d) r ∧ fin (prC c d) r ≤ 7 := by
  have s1 : stN (prC c d) r 1 = ⟨wd r 0, 0, fun _ => 0, 1, false, 0⟩ := rfl
  have s2 : stN (prC c d) r 2 = ⟨wd r 0, 0, putc (fun _ => 0) c (wd r 0), 2, false, 0⟩ := rfl
  have s3 : stN (prC c d) r 3 = ⟨wd r 4, 0, putc (fun _ => 0) c (wd r 0), 3, false, 0⟩ := rfl
  have s4 : stN (prC c d) r 4 = ⟨wd r 4, 0, putc (putc (fun _ => 0) c (wd r 0)) d 0, 4, false, 0⟩ := rfl
  have hv : putc (putc (fun _ => 0) c (wd r 0)) d 0 c = if c = d then 0 else wd r 0 := by unfold putc; simp
  have s5 : stN (prC c d) r 5 = ⟨wd r 4, putc (putc (fun _ => 0) c (wd r 0)) d 0 c, putc (putc (fun _ => 0) c (wd r 0)) d 0, 5, false, 0⟩ := rfl
  rw [hv] at s5
  have s6 : stN (prC c d) r 6 = ⟨if c = d then 0 else wd r 0, if c = d then 0 else wd r 0, putc (putc (fun _ => 0) c (wd r 0)) d 0, 6, false, 0⟩ := by
    show stp (gI (prC c d) (stN (prC c d) r 5).pc) r (stN (prC c d) r 5) = _
    rw [s5]; rfl
  have s7 : stN (prC c d) r 7 = ⟨if c = d then 0 else wd r 0, if c = d then 0 else wd r 0, putc (putc (fun _ => 0) c (wd r 0)) d 0, 7, true, if c = d then 0 else wd r 0⟩ := by
    show stp (gI (prC c d) (stN (prC c d) r 6).pc) r (stN (prC c d) r 6) = _
    rw [s6]; rfl
  have hver : ver (prC c d) r = if c = d then 0 else wd r 0 := ver_of (l := prC c d) 7 (show 7 ≤ 7 by decide) s7 rfl (lt7 rfl (by rw [s1]) (by rw [s2]) (by rw [s3]) (by rw [s4]) (by rw [s5]) (by rw [s6]))
  exact ⟨by rw [runA_ok (by rw [(prC_fine c d hc hd).chk]) hr, hver], fin_bd (prC_good c d hc hd) r⟩
#print axioms prC_run
end Go.Proofs.Ytjgcfffepkmojaa
