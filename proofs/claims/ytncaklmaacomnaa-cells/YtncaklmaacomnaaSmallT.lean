import Derived.Test.YtncaklmaacomnaaSmall
namespace Go.Proofs.Ytncaklmaacomnaa
open Go.RowKit
set_option linter.unusedVariables false

/-! ### Tests -/
def rets : List Ins := (List.range 256).map (fun j : Nat => (⟨6, 0, 0, (j : Int)⟩ : Ins))
def prT (i : Ins) : List Ins := [⟨32, 0, 0, 4⟩, ⟨7, 0, 0, 0⟩, ⟨32, 0, 0, 0⟩, i] ++ rets
theorem rets_len : rets.length = 256 := by simp [rets]
theorem prT_len (i : Ins) : (prT i).length = 260 := by simp [prT, rets_len]
theorem prT_get (i : Ins) (j : Nat) (hj : j < 256) : gI (prT i) (4 + j) = ⟨6, 0, 0, (j : Int)⟩ := by
  rw [gI_eq _ _ (by rw [prT_len]; omega)]
  unfold prT
  rw [List.getElem_append_right (by simp)]
  simp [rets]
theorem prT_all {p : Nat → Ins → Prop} (i : Ins) (h0 : p 0 ⟨32, 0, 0, 4⟩) (h1 : p 1 ⟨7, 0, 0, 0⟩) (h2 : p 2 ⟨32, 0, 0, 0⟩) (h3 : p 3 i) (hr : ∀ j, j < 256 → p (4 + j) ⟨6, 0, 0, (j : Int)⟩) : ∀ n, n < (prT i).length → p n (gI (prT i) n) := by
  intro n hn
  rw [prT_len] at hn
  match n, hn with
  | 0, _ => exact h0
  | 1, _ => exact h1
  | 2, _ => exact h2
  | 3, _ => exact h3
  | n + 4, h =>
    rw [show n + 4 = 4 + n by omega, prT_get i n (by omega)]
    exact hr n (by omega)
theorem ret_flt (k left : Int) : flt ⟨6, 0, 0, k⟩ left = 0 := by
  have : knd 6 = 9 := by decide
  unfold flt
  simp only [this]
  rfl
theorem prT_good (i : Ins) (hi : i.ok) (hf : flt i 256 = 0) : Good (prT i) := by
  refine ⟨by rw [prT_len]; decide, by rw [prT_len]; decide, ?_, ?_, ?_⟩
  · intro x hx
    obtain ⟨n, hn, rfl⟩ := List.getElem_of_mem hx
    rw [← gI_eq _ _ hn]
    exact prT_all (p := fun _ x => x.ok) i (ok_lit _ _ (by decide) (by decide) (by decide) (by decide)) (ok_lit _ _ (by decide) (by decide) (by decide) (by decide)) (ok_lit _ _ (by decide) (by decide) (by decide) (by decide)) hi (fun j hj => ok_lit _ _ (by decide) (by decide) (by omega) (by omega)) n hn
  · rw [prT_len]
    intro n hn
    exact prT_all (p := fun n x => flt x (((260 : Nat) : Int) - 1 - (n : Int)) = 0) i (by decide) (by decide) (by decide) (by simpa using hf) (fun j hj => ret_flt _ _) n (by rw [prT_len]; exact hn)
  · rw [prT_len, show 260 - 1 = 4 + 255 from rfl, prT_get i 255 (by decide)]
    decide
theorem prT_fine (i : Ins) (hi : i.ok) (hf : flt i 256 = 0) (hk : knd i.code = 3) : Fine (prT i) :=
  fine_nocell (prT_good i hi hf) (prT_all (p := fun _ x => knd x.code ≠ 5) i (by decide) (by decide) (by decide) (by rw [hk]; decide) (fun j hj => by show knd 6 ≠ 5; decide))
theorem prT_ver (i : Ins) (r : ByteArray) (t : Nat) (ht : t < 256) (hs : stp i r ⟨wd r 0, wd r 4, fun _ => 0, 3, false, 0⟩ = ⟨wd r 0, wd r 4, fun _ => 0, 4 + t, false, 0⟩) : ver (prT i) r = (t : Int) := by
  have s1 : stN (prT i) r 1 = ⟨wd r 4, 0, fun _ => 0, 1, false, 0⟩ := rfl
  have s2 : stN (prT i) r 2 = ⟨wd r 4, wd r 4, fun _ => 0, 2, false, 0⟩ := rfl
  have s3 : stN (prT i) r 3 = ⟨wd r 0, wd r 4, fun _ => 0, 3, false, 0⟩ := rfl
  have s4 : stN (prT i) r 4 = ⟨wd r 0, wd r 4, fun _ => 0, 4 + t, false, 0⟩ := hs
  have s5 : stN (prT i) r 5 = ⟨wd r 0, wd r 4, fun _ => 0, 4 + t + 1, true, (t : Int)⟩ := by
    show stp (gI (prT i) (stN (prT i) r 4).pc) r (stN (prT i) r 4) = _
    rw [s4]
    show stp (gI (prT i) (4 + t)) r _ = _
    rw [prT_get i t ht]
    rfl
  exact ver_of (l := prT i) 5 (by rw [prT_len]; decide) s5 rfl (lt5 rfl (by rw [s1]) (by rw [s2]) (by rw [s3]) (by rw [s4]))
def tstCodes : List Int := [21, 37, 53, 69]
theorem tst_knd : ∀ c ∈ tstCodes, knd c = 3 ∧ knd (c + 8) = 3 ∧ 0 ≤ c ∧ c < 100 := by decide
theorem tst_flt (c jt jf k : Int) (hk : knd c = 3) (h1 : jt < 256) (h2 : jf < 256) : flt ⟨c, jt, jf, k⟩ 256 = 0 := by
  unfold flt
  simp only [hk]
  simp
  omega
theorem way_lt (b : Bool) (jt jf : Int) (h1 : 0 ≤ jt ∧ jt < 256) (h2 : 0 ≤ jf ∧ jf < 256) : (if b then jt else jf).toNat < 256 ∧ (((if b then jt else jf).toNat : Nat) : Int) = (if b then jt else jf) := by
  cases b <;> simp <;> omega
theorem prT_X (c jt jf : Int) (hc : c ∈ tstCodes) (h1 : 0 ≤ jt ∧ jt < 256) (h2 : 0 ≤ jf ∧ jf < 256) (r : ByteArray) (hr : r.size = 64) :
    runA (prT ⟨c + 8, jt, jf, 0⟩) r = (if tst c (wd r 0) (wd r 4) then jt else jf, (fin (prT ⟨c + 8, jt, jf, 0⟩) r : Int), 0) ∧ 1 ≤ fin (prT ⟨c + 8, jt, jf, 0⟩) r ∧ fin (prT ⟨c + 8, jt, jf, 0⟩) r ≤ 260 := by
  obtain ⟨hk, hk8, hc0, hc1⟩ := tst_knd c hc
  have hi : Ins.ok ⟨c + 8, jt, jf, 0⟩ := ⟨⟨(show 0 ≤ c + 8 by omega), (show c + 8 < 65536 by omega)⟩, h1, h2, ⟨(show (0 : Int) ≤ 0 by decide), (show (0 : Int) < 4294967296 by decide)⟩⟩
  have hf := tst_flt (c + 8) jt jf 0 hk8 h1.2 h2.2
  have hs : stp ⟨c + 8, jt, jf, 0⟩ r ⟨wd r 0, wd r 4, fun _ => 0, 3, false, 0⟩ = ⟨wd r 0, wd r 4, fun _ => 0, 4 + (if tst c (wd r 0) (wd r 4) then jt else jf).toNat, false, 0⟩ := by
    simp only [tstCodes, List.mem_cons, List.not_mem_nil, or_false] at hc
    rcases hc with rfl | rfl | rfl | rfl <;> rfl
  have hw := way_lt (tst c (wd r 0) (wd r 4)) jt jf h1 h2
  have hb := fin_bd (prT_good _ hi hf) r
  rw [prT_len] at hb
  exact ⟨by rw [runA_ok (by rw [(prT_fine _ hi hf hk8).chk]) hr, prT_ver _ r _ hw.1 hs, hw.2], hb⟩
theorem prT_K (c jt jf b : Int) (hc : c ∈ tstCodes) (h1 : 0 ≤ jt ∧ jt < 256) (h2 : 0 ≤ jf ∧ jf < 256) (hb : U32 b) (r : ByteArray) (hr : r.size = 64) :
    runA (prT ⟨c, jt, jf, b⟩) r = (if tst c (wd r 0) b then jt else jf, (fin (prT ⟨c, jt, jf, b⟩) r : Int), 0) ∧ 1 ≤ fin (prT ⟨c, jt, jf, b⟩) r ∧ fin (prT ⟨c, jt, jf, b⟩) r ≤ 260 := by
  obtain ⟨hk, hk8, hc0, hc1⟩ := tst_knd c hc
  have hi : Ins.ok ⟨c, jt, jf, b⟩ := ⟨⟨hc0, (show c < 65536 by omega)⟩, h1, h2, hb⟩
  have hf := tst_flt c jt jf b hk h1.2 h2.2
  have hs : stp ⟨c, jt, jf, b⟩ r ⟨wd r 0, wd r 4, fun _ => 0, 3, false, 0⟩ = ⟨wd r 0, wd r 4, fun _ => 0, 4 + (if tst c (wd r 0) b then jt else jf).toNat, false, 0⟩ := by
    simp only [tstCodes, List.mem_cons, List.not_mem_nil, or_false] at hc
    rcases hc with rfl | rfl | rfl | rfl <;> rfl
  have hw := way_lt (tst c (wd r 0) b) jt jf h1 h2
  have hbd := fin_bd (prT_good _ hi hf) r
  rw [prT_len] at hbd
  exact ⟨by rw [runA_ok (by rw [(prT_fine _ hi hf hk).chk]) hr, prT_ver _ r _ hw.1 hs, hw.2], hbd⟩

/-! ### Cells -/
theorem lt7 {p : Nat → Prop} (h0 : p 0) (h1 : p 1) (h2 : p 2) (h3 : p 3) (h4 : p 4) (h5 : p 5) (h6 : p 6) : ∀ j, j < 7 → p j := fun j hj => by
  match j, hj with
  | 0, _ => exact h0
  | 1, _ => exact h1
  | 2, _ => exact h2
  | 3, _ => exact h3
  | 4, _ => exact h4
  | 5, _ => exact h5
  | 6, _ => exact h6
  | n + 7, h => exact absurd h (by omega)
def prC (c d : Nat) : List Ins := [⟨32, 0, 0, 0⟩, ⟨2, 0, 0, (c : Int)⟩, ⟨32, 0, 0, 4⟩, ⟨3, 0, 0, (d : Int)⟩, ⟨97, 0, 0, (c : Int)⟩, ⟨135, 0, 0, 0⟩, ⟨22, 0, 0, 0⟩]
def prM (c k : Nat) : List Ins := [⟨32, 0, 0, 4⟩, ⟨69, 2, 0, 1⟩, ⟨2, 0, 0, (c : Int)⟩, ⟨5, 0, 0, 1⟩, ⟨2, 0, 0, (k : Int)⟩, ⟨96, 0, 0, (c : Int)⟩, ⟨22, 0, 0, 0⟩]
theorem cell_flt (code left : Int) (c : Nat) (hc : c < 16) (hk : knd code = 5 ∨ knd code = 6) : flt ⟨code, 0, 0, (c : Int)⟩ left = 0 := by
  unfold flt
  rcases hk with hk | hk
  · simp only [hk]; simp; omega
  · simp only [hk]; simp; omega
theorem prC_good (c d : Nat) (hc : c < 16) (hd : d < 16) : Good (prC c d) := by
  refine ⟨(show 0 < 7 by decide), (show 7 ≤ 4096 by decide), ?_, ?_, (show knd 22 = 9 by decide)⟩
  · intro x hx
    simp only [prC, List.mem_cons, List.not_mem_nil, or_false] at hx
    rcases hx with rfl | rfl | rfl | rfl | rfl | rfl | rfl
    all_goals exact ok_lit _ _ (by decide) (by decide) (by omega) (by omega)
  · exact lt7 (show flt ⟨32, 0, 0, 0⟩ 6 = 0 by decide) (cell_flt 2 _ c hc (by decide)) (show flt ⟨32, 0, 0, 4⟩ 4 = 0 by decide) (cell_flt 3 _ d hd (by decide)) (cell_flt 97 _ c hc (by decide)) (show flt ⟨135, 0, 0, 0⟩ 1 = 0 by decide) (show flt ⟨22, 0, 0, 0⟩ 0 = 0 by decide)
theorem prM_good (c k : Nat) (hc : c < 16) (hk : k < 16) : Good (prM c k) := by
  refine ⟨(show 0 < 7 by decide), (show 7 ≤ 4096 by decide), ?_, ?_, (show knd 22 = 9 by decide)⟩
  · intro x hx
    simp only [prM, List.mem_cons, List.not_mem_nil, or_false] at hx
    rcases hx with rfl | rfl | rfl | rfl | rfl | rfl | rfl
    · exact ok_lit _ _ (by decide) (by decide) (by decide) (by decide)
    · exact ⟨⟨by decide, by decide⟩, ⟨by decide, by decide⟩, ⟨by decide, by decide⟩, ⟨by decide, by decide⟩⟩
    all_goals exact ok_lit _ _ (by decide) (by decide) (by omega) (by omega)
  · exact lt7 (show flt ⟨32, 0, 0, 4⟩ 6 = 0 by decide) (show flt ⟨69, 2, 0, 1⟩ 5 = 0 by decide) (cell_flt 2 _ c hc (by decide)) (show flt ⟨5, 0, 0, 1⟩ 3 = 0 by decide) (cell_flt 2 _ k hk (by decide)) (cell_flt 96 _ c hc (by decide)) (show flt ⟨22, 0, 0, 0⟩ 0 = 0 by decide)
theorem bit_two (c d : Nat) : ((0 ||| 1 <<< c) ||| 1 <<< d).testBit c = true := by simp [Nat.testBit_or, Nat.shiftLeft_eq, Nat.testBit_two_pow]
theorem bit_meet (c k : Nat) : ((0 ||| 1 <<< c) &&& (0 ||| 1 <<< k)).testBit c = decide (k = c) := by simp [Nat.testBit_and, Nat.shiftLeft_eq, Nat.testBit_two_pow]
theorem nocell {l : List Ins} {n : Nat} (h : knd (gI l n).code ≠ 5) : bad l n = false := by
  cases hs : pst l n n with
  | none => exact bad_none hs
  | some S => rw [bad_some hs, decide_eq_false h]; rfl
theorem prC_fine (c d : Nat) (hc : c < 16) (hd : d < 16) : Fine (prC c d) := by
  refine ⟨prC_good c d hc hd, ?_⟩
  have hp : pst (prC c d) 4 4 = some ((0 ||| 1 <<< c) ||| 1 <<< d) := rfl
  exact lt7 (nocell (show knd 32 ≠ 5 by decide)) (nocell (show knd 2 ≠ 5 by decide)) (nocell (show knd 32 ≠ 5 by decide)) (nocell (show knd 3 ≠ 5 by decide)) (by
    rw [bad_some hp]
    show (decide (knd 97 = 5) && !(((0 ||| 1 <<< c) ||| 1 <<< d).testBit c)) = false
    rw [bit_two]; rfl) (nocell (show knd 135 ≠ 5 by decide)) (nocell (show knd 22 ≠ 5 by decide))
theorem prM_bad (c k : Nat) : bad (prM c k) 5 = !decide (k = c) := by
  have hp : pst (prM c k) 5 5 = some ((0 ||| 1 <<< c) &&& (0 ||| 1 <<< k)) := rfl
  rw [bad_some hp]
  show (decide (knd 96 = 5) && !(((0 ||| 1 <<< c) &&& (0 ||| 1 <<< k)).testBit c)) = _
  rw [bit_meet]; rfl
theorem prM_chk (c k : Nat) (hc : c < 16) (hk : k < 16) : chk (prM c k) = if k = c then (0, 0) else (9, 5) := by
  have hg := prM_good c k hc hk
  rw [chk_uns hg.len hg.ft hg.last]
  by_cases h : k = c
  · rw [if_pos h]
    exact uns_no (lt7 (nocell (show knd 32 ≠ 5 by decide)) (nocell (show knd 69 ≠ 5 by decide)) (nocell (show knd 2 ≠ 5 by decide)) (nocell (show knd 5 ≠ 5 by decide)) (nocell (show knd 2 ≠ 5 by decide)) (by rw [prM_bad]; simp [h]) (nocell (show knd 22 ≠ 5 by decide)))
  · rw [if_neg h]
    exact uns_at (i := 5) (show 5 < 7 by decide) (by rw [prM_bad]; simp [h]) (lt5 (nocell (show knd 32 ≠ 5 by decide)) (nocell (show knd 69 ≠ 5 by decide)) (nocell (show knd 2 ≠ 5 by decide)) (nocell (show knd 5 ≠ 5 by decide)) (nocell (show knd 2 ≠ 5 by decide)))
theorem prC_run (c d : Nat) (hc : c < 16) (hd : d < 16) (r : ByteArray) (hr : r.size = 64) :
    runA (prC c d) r = (if c = d then 0 else wd r 0, (fin (prC c d) r : Int), 0) ∧ 1 ≤ fin (prC c d) r ∧ fin (prC c d) r ≤ 7 := by
  have s1 : stN (prC c d) r 1 = ⟨wd r 0, 0, fun _ => 0, 1, false, 0⟩ := rfl
  have s2 : stN (prC c d) r 2 = ⟨wd r 0, 0, putc (fun _ => 0) c (wd r 0), 2, false, 0⟩ := rfl
  have s3 : stN (prC c d) r 3 = ⟨wd r 4, 0, putc (fun _ => 0) c (wd r 0), 3, false, 0⟩ := rfl
  have s4 : stN (prC c d) r 4 = ⟨wd r 4, 0, putc (putc (fun _ => 0) c (wd r 0)) d 0, 4, false, 0⟩ := rfl
  have hv : putc (putc (fun _ => 0) c (wd r 0)) d 0 c = if c = d then 0 else wd r 0 := by unfold putc; simp
  have s5 : stN (prC c d) r 5 = ⟨wd r 4, putc (putc (fun _ => 0) c (wd r 0)) d 0 c, putc (putc (fun _ => 0) c (wd r 0)) d 0, 5, false, 0⟩ := rfl
  rw [hv] at s5
  have s6 : stN (prC c d) r 6 = ⟨if c = d then 0 else wd r 0, if c = d then 0 else wd r 0, putc (putc (fun _ => 0) c (wd r 0)) d 0, 6, false, 0⟩ := by
    show stp (gI (prC c d) (stN (prC c d) r 5).pc) r (stN (prC c d) r 5) = _
    rw [s5]; rfl
  have s7 : stN (prC c d) r 7 = ⟨if c = d then 0 else wd r 0, if c = d then 0 else wd r 0, putc (putc (fun _ => 0) c (wd r 0)) d 0, 7, true, if c = d then 0 else wd r 0⟩ := by
    show stp (gI (prC c d) (stN (prC c d) r 6).pc) r (stN (prC c d) r 6) = _
    rw [s6]; rfl
  have hver : ver (prC c d) r = if c = d then 0 else wd r 0 := ver_of (l := prC c d) 7 (show 7 ≤ 7 by decide) s7 rfl (lt7 rfl (by rw [s1]) (by rw [s2]) (by rw [s3]) (by rw [s4]) (by rw [s5]) (by rw [s6]))
  exact ⟨by rw [runA_ok (by rw [(prC_fine c d hc hd).chk]) hr, hver], fin_bd (prC_good c d hc hd) r⟩
#print axioms prC_run
end Go.Proofs.Ytncaklmaacomnaa
