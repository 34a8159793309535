/-
  The checker's flow, as plain mathematics: sets of cells as numbers, a pass over all instructions, what a second pass finds. No Go here.
-/
namespace Go.Proofs.Ytfniofpeilgnnaa.Flow

/-- What is known of an instruction (none: no way leads to it), and one way more. -/
def jn (o : Option Nat) (w : Nat) : Option Nat := match o with
  | none => some w
  | some a => some (a &&& w)
/-- A way to each of these. -/
def feed (st : Nat → Option Nat) (w : Nat) : List Nat → (Nat → Option Nat)
  | [] => st
  | j :: r => feed (fun x => if x = j then jn (st j) w else st x) w r

section
variable (sc : Nat → List Nat) (ou : Nat → Nat → Nat)
/-- One instruction: what is known of it goes on to those behind it. -/
def stp (st : Nat → Option Nat) (i : Nat) : Nat → Option Nat := match st i with
  | none => st
  | some S => feed st (ou i S) (sc i)
/-- The first k instructions. -/
def pass : Nat → (Nat → Option Nat)
  | 0 => fun x => if x = 0 then some 0 else none
  | k + 1 => stp sc ou (pass k) k
end

/-- What is known only shrinks. -/
def Sub (a b : Option Nat) : Prop := match a, b with
  | none, _ => True
  | some _, none => False
  | some a, some b => b &&& a = b
theorem Sub.refl (a : Option Nat) : Sub a a := by cases a <;> simp [Sub]
theorem Sub.trans {a b c : Option Nat} (h : Sub a b) (k : Sub b c) : Sub a c := by
  cases a with
  | none => trivial
  | some a =>
    cases b with
    | none => exact h.elim
    | some b =>
      cases c with
      | none => exact k.elim
      | some c =>
        simp only [Sub] at h k ⊢
        rw [← k, Nat.and_assoc, h]
theorem sub_jn (o : Option Nat) (w : Nat) : Sub o (jn o w) := by
  cases o with
  | none => trivial
  | some a => simp only [Sub, jn]; rw [Nat.and_comm (a &&& w) a, ← Nat.and_assoc, Nat.and_self]
theorem jn_sub (o : Option Nat) (w : Nat) : Sub (some w) (jn o w) := by
  cases o with
  | none => simp [Sub, jn]
  | some a => simp only [Sub, jn]; rw [Nat.and_assoc, Nat.and_self]

theorem feed_sub (st : Nat → Option Nat) (w : Nat) (l : List Nat) (x : Nat) : Sub (st x) (feed st w l x) := by
  induction l generalizing st with
  | nil => exact Sub.refl _
  | cons j r ih =>
    refine Sub.trans ?_ (ih _)
    by_cases h : x = j
    · subst h; simp only [if_true]; exact sub_jn _ _
    · simp only [if_neg h]; exact Sub.refl _
theorem feed_at (st : Nat → Option Nat) (w : Nat) (l : List Nat) (x : Nat) (h : x ∈ l) : Sub (some w) (feed st w l x) := by
  induction l generalizing st with
  | nil => cases h
  | cons j r ih =>
    by_cases hx : x ∈ r
    · exact ih _ hx
    · have hj : x = j := by
        rcases List.mem_cons.1 h with e | e
        · exact e
        · exact absurd e hx
      subst hj
      refine Sub.trans ?_ (feed_sub _ w r x)
      simp only [if_true]; exact jn_sub _ _
theorem feed_off (st : Nat → Option Nat) (w : Nat) (l : List Nat) (x : Nat) (h : x ∉ l) : feed st w l x = st x := by
  induction l generalizing st with
  | nil => rfl
  | cons j r ih =>
    rw [feed, ih _ (fun e => h (List.mem_cons_of_mem _ e)), if_neg (fun e => h (by rw [e]; exact List.mem_cons_self ..))]
theorem feed_id (st : Nat → Option Nat) (w : Nat) (l : List Nat) (h : ∀ j ∈ l, ∃ T, st j = some T ∧ T &&& w = T) : feed st w l = st := by
  induction l with
  | nil => rfl
  | cons j r ih =>
    obtain ⟨T, h1, h2⟩ := h j (List.mem_cons_self ..)
    have e : (fun x => if x = j then jn (st j) w else st x) = st := by
      funext x
      by_cases hx : x = j
      · subst hx; simp only [if_true, h1, jn, h2]
      · simp only [if_neg hx]
    rw [feed, e]
    exact ih (fun k hk => h k (List.mem_cons_of_mem _ hk))

section
variable {sc : Nat → List Nat} {ou : Nat → Nat → Nat}
theorem stp_none {st : Nat → Option Nat} {i : Nat} (h : st i = none) : stp sc ou st i = st := by unfold stp; rw [h]
theorem stp_some {st : Nat → Option Nat} {i S : Nat} (h : st i = some S) : stp sc ou st i = feed st (ou i S) (sc i) := by unfold stp; rw [h]
theorem stp_sub (st : Nat → Option Nat) (i x : Nat) : Sub (st x) (stp sc ou st i x) := by
  cases h : st i with
  | none => rw [stp_none h]; exact Sub.refl _
  | some S => rw [stp_some h]; exact feed_sub _ _ _ _
theorem pass_sub (a b x : Nat) (h : a ≤ b) : Sub (pass sc ou a x) (pass sc ou b x) := by
  induction b with
  | zero => have : a = 0 := by omega
            subst this; exact Sub.refl _
  | succ b ih =>
    rcases Nat.lt_or_ge b a with h1 | h1
    · have : a = b + 1 := by omega
      subst this; exact Sub.refl _
    · exact Sub.trans (ih h1) (stp_sub _ _ _)
/-- All ways go on: so an instruction's own turn finds all that leads to it. -/
theorem pass_done (hf : ∀ i, ∀ j ∈ sc i, i < j) (x k : Nat) (h : x ≤ k) : pass sc ou k x = pass sc ou x x := by
  induction k with
  | zero => have : x = 0 := by omega
            subst this; rfl
  | succ k ih =>
    rcases Nat.lt_or_ge k x with h1 | h1
    · have : x = k + 1 := by omega
      subst this; rfl
    · rw [← ih h1]
      show stp sc ou (pass sc ou k) k x = _
      cases hk : pass sc ou k k with
      | none => rw [stp_none hk]
      | some S => rw [stp_some hk]; exact feed_off _ _ _ _ (fun e => by have := hf k x e; omega)
/-- Behind the pass all that is known of an instruction has gone on. -/
theorem pass_stable (hf : ∀ i, ∀ j ∈ sc i, i < j) (n i : Nat) (hi : i < n) (S : Nat) (hS : pass sc ou n i = some S) : ∀ j ∈ sc i, ∃ T, pass sc ou n j = some T ∧ T &&& ou i S = T := by
  intro j hj
  have h1 : pass sc ou i i = some S := by rw [← pass_done hf i n (by omega)]; exact hS
  have h2 : Sub (some (ou i S)) (pass sc ou (i + 1) j) := by
    show Sub _ (stp sc ou (pass sc ou i) i j)
    rw [stp_some h1]
    exact feed_at _ _ _ _ hj
  have h3 := Sub.trans h2 (pass_sub (i + 1) n j (by omega))
  cases h4 : pass sc ou n j with
  | none => rw [h4] at h3; exact h3.elim
  | some T => rw [h4] at h3; exact ⟨T, rfl, h3⟩
theorem pass_again (hf : ∀ i, ∀ j ∈ sc i, i < j) (n i : Nat) (hi : i < n) : stp sc ou (pass sc ou n) i = pass sc ou n := by
  cases hS : pass sc ou n i with
  | none => exact stp_none hS
  | some S => rw [stp_some hS]; exact feed_id _ _ _ (pass_stable hf n i hi S hS)
/-- No way leads out of what there is. -/
theorem pass_in (n : Nat) (hn : 0 < n) (hin : ∀ i, i < n → ∀ j ∈ sc i, j < n) (k x : Nat) (hk : k ≤ n) (hx : n ≤ x) : pass sc ou k x = none := by
  induction k with
  | zero => simp only [pass]; rw [if_neg (by omega)]
  | succ k ih =>
    show stp sc ou (pass sc ou k) k x = none
    cases hk' : pass sc ou k k with
    | none => rw [stp_none hk']; exact ih (by omega)
    | some S => rw [stp_some hk', feed_off _ _ _ _ (fun e => by have := hin k (by omega) x e; omega)]; exact ih (by omega)
end
#print axioms pass_again
end Go.Proofs.Ytfniofpeilgnnaa.Flow
