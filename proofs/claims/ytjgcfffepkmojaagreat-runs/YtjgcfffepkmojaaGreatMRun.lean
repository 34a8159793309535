import Derived.Test.YtjgcfffepkmojaaGreatMSpec
import Derived.Test.YtjgcfffepkmojaaGreatRCheck
namespace Go.Proofs.YtjgcfffepkmojaaGreat
open Go.RowKit
set_option linter.unusedVariables false

/-! ### A run, step by step -/
theorem u32_nat (n : Nat) (h : n < 4294967296) : U32 (n : Int) := ⟨by omega, by omega⟩
theorem u32_mod (x : Int) : U32 (x % 4294967296) := ⟨Int.emod_nonneg _ (by decide), Int.emod_lt_of_pos _ (by decide)⟩
theorem ok_ite {c : Prop} [Decidable c] {p q : Mc} (h1 : c → p.ok) (h2 : ¬ c → q.ok) : (if c then p else q).ok := by
  by_cases h : c
  · rw [if_pos h]; exact h1 h
  · rw [if_neg h]; exact h2 h
theorem alu_ok {c k : Int} {i : Ins} {m : Mc} (hm : m.ok) (hk : U32 k) : (alu c k i m).ok := by
  have hA := hm.a
  have b1 : U32 (bits .or .u32 m.a k) := by
    rw [u32_or _ _ hA.1 hA.2 hk.1 hk.2]
    exact u32_nat _ (Nat.or_lt_two_pow (n := 32) (by have := hA.2; have := hA.1; omega) (by have := hk.2; have := hk.1; omega))
  have b2 : U32 (bits .and .u32 m.a k) := by
    rw [u32_and _ _ hA.1 hA.2 hk.1 hk.2]
    exact u32_nat _ (Nat.lt_of_le_of_lt Nat.and_le_left (by have := hA.2; have := hA.1; omega))
  have b3 : U32 (bits .xor .u32 m.a k) := by
    rw [u32_xor _ _ hA.1 hA.2 hk.1 hk.2]
    exact u32_nat _ (Nat.xor_lt_two_pow (n := 32) (by have := hA.2; have := hA.1; omega) (by have := hk.2; have := hk.1; omega))
  have b4 : U32 (m.a / 2 ^ (k % 32).toNat) := by
    have hp : (0 : Int) ≤ 2 ^ (k % 32).toNat := Int.le_of_lt (Int.pow_pos (by decide))
    have := Int.ediv_le_self (2 ^ (k % 32).toNat) hA.1
    exact ⟨Int.ediv_nonneg hA.1 hp, by have := hA.2; omega⟩
  have b5 : U32 (m.a / k) := ⟨Int.ediv_nonneg hA.1 hk.1, by have := Int.ediv_le_self k hA.1; have := hA.2; omega⟩
  have b6 : k ≠ 0 → U32 (m.a % k) := fun h0 => ⟨Int.emod_nonneg _ h0, by have := Int.emod_lt_of_pos m.a (show 0 < k by have := hk.1; omega); have := hk.2; omega⟩
  unfold alu
  repeat' (refine ok_ite (fun _ => ?_) (fun _ => ?_))
  all_goals first
    | exact hm
    | exact ⟨u32_mod _, hm.x, hm.c⟩
    | exact ⟨b1, hm.x, hm.c⟩
    | exact ⟨b2, hm.x, hm.c⟩
    | exact ⟨b3, hm.x, hm.c⟩
    | exact ⟨b4, hm.x, hm.c⟩
    | exact ⟨b5, hm.x, hm.c⟩
    | exact ⟨b6 (by assumption), hm.x, hm.c⟩
    | exact ⟨hm.a, hm.x, hm.c⟩
theorem stp_ok {i : Ins} {r : ByteArray} {m : Mc} (hm : m.ok) (hi : i.ok) : (stp i r m).ok := by
  have hk : U32 i.k := hi.2.2.2
  have h64 : U32 64 := ⟨by decide, by decide⟩
  have hw : U32 (wd r i.k.toNat) := wd_bd r _
  have hput : ∀ y, U32 y → ∀ j, U32 (putc m.c i.k.toNat y j) := fun y hy j => by
    unfold putc
    split
    · exact hy
    · exact hm.c j
  have hx : U32 (if xb i.code then m.x else i.k) := by
    cases xb i.code
    · exact hk
    · exact hm.x
  have hA : (alu (low i.code) (if xb i.code then m.x else i.k) i { m with pc := m.pc + 1 }).ok := alu_ok ⟨hm.a, hm.x, hm.c⟩ hx
  unfold stp
  generalize alu (low i.code) (if xb i.code then m.x else i.k) i { m with pc := m.pc + 1 } = q at hA ⊢
  repeat' (refine ok_ite (fun _ => ?_) (fun _ => ?_))
  all_goals first
    | exact ⟨hk, hm.x, hm.c⟩
    | exact ⟨hm.a, hk, hm.c⟩
    | exact ⟨hw, hm.x, hm.c⟩
    | exact ⟨hm.c _, hm.x, hm.c⟩
    | exact ⟨hm.a, hm.c _, hm.c⟩
    | exact ⟨h64, hm.x, hm.c⟩
    | exact ⟨hm.a, h64, hm.c⟩
    | exact ⟨hm.a, hm.x, hput _ hm.a⟩
    | exact ⟨hm.a, hm.x, hput _ hm.x⟩
    | exact ⟨hm.a, hm.a, hm.c⟩
    | exact ⟨hm.x, hm.x, hm.c⟩
    | exact ⟨hm.a, hm.x, hm.c⟩
    | exact hA

/-- Where a step goes on, if it does not end. -/
theorem stp_pc {i : Ins} {left : Int} (hf : flt i left = 0) (r : ByteArray) (m : Mc) : (stp i r m).e = true ∨
    (knd i.code ≠ 9 ∧ (knd i.code = 2 → (stp i r m).pc = m.pc + 1 + i.k.toNat) ∧ (knd i.code = 3 → (stp i r m).pc = m.pc + 1 + i.jt.toNat ∨ (stp i r m).pc = m.pc + 1 + i.jf.toNat) ∧ (knd i.code ≠ 2 → knd i.code ≠ 3 → (stp i r m).pc = m.pc + 1)) := by
  have h := known_of hf
  simp only [allCodes, plainCodes, testCodes, List.cons_append, List.nil_append, List.mem_cons, List.not_mem_nil, or_false] at h
  have two : ∀ (b : Bool), (m.pc + 1 + (if b then i.jt else i.jf).toNat = m.pc + 1 + i.jt.toNat ∨ m.pc + 1 + (if b then i.jt else i.jf).toNat = m.pc + 1 + i.jf.toNat) := fun b => by cases b <;> simp
  rcases h with h | h | h | h | h | h | h | h | h | h | h | h | h | h | h | h | h | h | h | h | h | h | h | h | h | h | h | h | h | h | h | h | h | h | h | h | h | h | h | h | h | h | h
  all_goals (
    have hk : knd i.code = knd i.code := rfl
    rw [h] at hk ⊢
    unfold stp
    rw [h]
    first
      | (left; rfl)
      | (right; exact ⟨by decide, fun e => absurd e (by decide), fun e => absurd e (by decide), fun _ _ => rfl⟩)
      | (right; exact ⟨by decide, fun _ => rfl, fun e => absurd e (by decide), fun e => absurd rfl e⟩)
      | (right; exact ⟨by decide, fun e => absurd e (by decide), fun _ => two _, fun _ e => absurd rfl e⟩)
      | (simp only [alu, low, xb, xCodes]; simp; split <;> simp [knd, plainCodes, testCodes]))

def m0 : Mc := ⟨0, 0, fun _ => 0, 0, false, 0⟩
def stN (l : List Ins) (r : ByteArray) : Nat → Mc
  | 0 => m0
  | n + 1 => stp (gI l (stN l r n).pc) r (stN l r n)
theorem m0_ok : m0.ok := ⟨⟨by decide, by decide⟩, ⟨by decide, by decide⟩, fun _ => (show U32 0 from ⟨by decide, by decide⟩)⟩
theorem gI_ok {l : List Ins} (h : Good l) (n : Nat) : (gI l n).ok := by
  rcases Nat.lt_or_ge n l.length with h1 | h1
  · exact h.gok h1
  · have : gI l n = zI := by simp [gI, List.getD, h1]
    rw [this]
    exact ⟨⟨by decide, by decide⟩, ⟨by decide, by decide⟩, ⟨by decide, by decide⟩, ⟨by decide, by decide⟩⟩
theorem stN_ok {l : List Ins} (h : Good l) (r : ByteArray) (n : Nat) : (stN l r n).ok := by
  induction n with
  | zero => exact m0_ok
  | succ n ih => exact stp_ok ih (gI_ok h _)
theorem stp_sc {l : List Ins} (h : Good l) (r : ByteArray) (m : Mc) (hlt : m.pc < l.length) (he : (stp (gI l m.pc) r m).e = false) : (stp (gI l m.pc) r m).pc ∈ sc l m.pc := by
  rcases stp_pc (h.no _ hlt) r m with h1 | ⟨h9, h2, h3, h1⟩
  · rw [h1] at he; cases he
  · unfold sc
    rw [if_neg h9]
    by_cases k2 : knd (gI l m.pc).code = 2
    · rw [if_pos k2, h2 k2]; simp
    · rw [if_neg k2]
      by_cases k3 : knd (gI l m.pc).code = 3
      · rw [if_pos k3]
        rcases h3 k3 with e | e <;> rw [e] <;> simp
      · rw [if_neg k3, h1 k2 k3]; simp
theorem stN_inv {l : List Ins} (h : Good l) (r : ByteArray) (n : Nat) (hn : ∀ j, j ≤ n → (stN l r j).e = false) : (stN l r n).pc < l.length ∧ n ≤ (stN l r n).pc := by
  induction n with
  | zero => exact ⟨h.pos, Nat.le_refl _⟩
  | succ n ih =>
    obtain ⟨i1, i2⟩ := ih (fun j hj => hn j (by omega))
    have hs := stp_sc h r (stN l r n) i1 (hn (n + 1) (Nat.le_refl _))
    have h1 := h.sc_in i1 _ hs
    have h2 := sc_fwd l _ _ hs
    exact ⟨h1, by show n + 1 ≤ (stp _ r _).pc; omega⟩
/-- A checked program ends, within as many steps as it has instructions. -/
theorem stN_ends {l : List Ins} (h : Good l) (r : ByteArray) : ∃ N, 1 ≤ N ∧ N ≤ l.length ∧ (stN l r N).e = true ∧ ∀ j, j < N → (stN l r j).e = false := by
  have key : ∀ n, n ≤ l.length → (∀ j, j ≤ n → (stN l r j).e = false) ∨ ∃ N, 1 ≤ N ∧ N ≤ n ∧ (stN l r N).e = true ∧ ∀ j, j < N → (stN l r j).e = false := by
    intro n
    induction n with
    | zero => intro _; exact .inl (fun j hj => by rw [Nat.le_zero.1 hj]; rfl)
    | succ n ih =>
      intro hn
      rcases ih (by omega) with h1 | ⟨N, a, b, c, d⟩
      · cases he : (stN l r (n + 1)).e with
        | true => exact .inr ⟨n + 1, by omega, Nat.le_refl _, he, fun j hj => h1 j (by omega)⟩
        | false => exact .inl (fun j hj => by
            rcases Nat.lt_or_ge j (n + 1) with h2 | h2
            · exact h1 j (by omega)
            · rw [show j = n + 1 by omega]; exact he)
      · exact .inr ⟨N, a, by omega, c, d⟩
  rcases key l.length (Nat.le_refl _) with h1 | ⟨N, a, b, c, d⟩
  · have := stN_inv h r l.length h1
    omega
  · exact ⟨N, a, b, c, d⟩
/-- How many steps, and the verdict. -/
def fin (l : List Ins) (r : ByteArray) : Nat := ((List.range (l.length + 1)).find? (fun n => (stN l r n).e)).getD 0
def ver (l : List Ins) (r : ByteArray) : Int := (stN l r (fin l r)).v
theorem fin_eq {l : List Ins} {r : ByteArray} {N : Nat} (hN : N ≤ l.length) (he : (stN l r N).e = true) (hb : ∀ j, j < N → (stN l r j).e = false) : fin l r = N := by
  unfold fin
  rw [find_first (fun n => (stN l r n).e) (l.length + 1) N (by omega) he hb]
  rfl
theorem chk_good {l : List Ins} (hok : ∀ x ∈ l, x.ok) (h : (chk l).1 = 0) : Good l := by
  by_cases h0 : l.length = 0 ∨ 4096 < l.length
  · rw [chk_len h0] at h; cases h
  cases hf : (List.range l.length).find? (ft l) with
  | some i =>
    have h1 := List.find?_some hf
    unfold chk at h
    rw [if_neg h0, hf] at h
    simp only at h
    unfold ft at h1
    rw [h] at h1
    cases h1
  | none =>
    have hb : ∀ j, j < l.length → ft l j = false := fun j hj => by
      have := List.find?_eq_none.1 hf j (List.mem_range.2 hj)
      simpa using this
    by_cases hk : knd (gI l (l.length - 1)).code = 9
    · exact good_of h0 hok hb hk
    · rw [chk_end h0 hb hk] at h; cases h
/-- What Run answers. -/
def runA (l : List Ins) (r : ByteArray) : Int × Int × Int := if (chk l).1 ≠ 0 then (0, 0, (chk l).1) else if r.size ≠ 64 then (0, 0, 10) else (ver l r, (fin l r : Int), 0)
end Go.Proofs.YtjgcfffepkmojaaGreat
