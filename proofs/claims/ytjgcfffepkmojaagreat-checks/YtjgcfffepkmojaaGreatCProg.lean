import Derived.Test.YtjgcfffepkmojaaGreatUnset
namespace Go.Proofs.YtjgcfffepkmojaaGreat
open Go.RowKit
set_option linter.unusedVariables false

/-- Is something wrong with the i-th instruction? -/
def ft (l : List Ins) (i : Nat) : Bool := flt (gI l i) ((l.length : Int) - 1 - i) != 0
/-- What Check answers. -/
def chk (l : List Ins) : Int × Int :=
  if l.length = 0 ∨ 4096 < l.length then (1, 0) else match (List.range l.length).find? (ft l) with
    | some i => (flt (gI l i) ((l.length : Int) - 1 - i), (i : Int))
    | none => if knd (gI l (l.length - 1)).code = 9 then uns l else (8, (l.length : Int) - 1)
theorem chk_len {l : List Ins} (h : l.length = 0 ∨ 4096 < l.length) : chk l = (1, 0) := by rw [chk, if_pos h]
theorem chk_bad {l : List Ins} (h : ¬ (l.length = 0 ∨ 4096 < l.length)) (i : Nat) (hi : i < l.length) (hb : ∀ j, j < i → ft l j = false) (hp : flt (gI l i) ((l.length : Int) - 1 - i) ≠ 0) :
    chk l = (flt (gI l i) ((l.length : Int) - 1 - i), (i : Int)) := by
  rw [chk, if_neg h, find_first (ft l) l.length i hi (by simp [ft, hp]) hb]
theorem chk_end {l : List Ins} (h : ¬ (l.length = 0 ∨ 4096 < l.length)) (hb : ∀ j, j < l.length → ft l j = false) (hk : knd (gI l (l.length - 1)).code ≠ 9) : chk l = (8, (l.length : Int) - 1) := by
  rw [chk, if_neg h, find_none _ _ hb]
  exact if_neg hk
theorem chk_uns {l : List Ins} (h : ¬ (l.length = 0 ∨ 4096 < l.length)) (hb : ∀ j, j < l.length → ft l j = false) (hk : knd (gI l (l.length - 1)).code = 9) : chk l = uns l := by
  rw [chk, if_neg h, find_none _ _ hb]
  exact if_pos hk
theorem good_of {l : List Ins} (h : ¬ (l.length = 0 ∨ 4096 < l.length)) (hok : ∀ x ∈ l, x.ok) (hb : ∀ j, j < l.length → ft l j = false) (hk : knd (gI l (l.length - 1)).code = 9) : Good l :=
  ⟨by omega, by omega, hok, fun i hi => by have := hb i hi; simpa [ft] using this, hk⟩
theorem ret_ii {a b : Int} {p : Int × Int} (h : p = (a, b)) : Ending.returned (.tuple #[.int .i64 a, .int .i64 b]) = .returned (.tuple #[.int .i64 p.1, .int .i64 p.2]) := by rw [h]

set_option maxRecDepth 100000 in
set_option maxHeartbeats 4000000 in
theorem cProgram_any (w : World) (ao : Option Addr) (cap : Nat) (l : List Ins) (hv : View w ao (flat l)) (hok : ∀ x ∈ l, x.ok) :
    Calls Tryz.prog 50 #[.slice ao l.length cap] w fun e w' => e = .returned (.tuple #[.int .i64 (chk l).1, .int .i64 (chk l).2]) ∧ Fr nob w w' := by
  by_cases h0 : l.length = 0
  · have HC := hide (chk_len (.inl h0))
    go_enter Tryz.func50, Tryz.ntmps50
    go_wp2
    go_ret2
    exact ⟨ret_ii HC.out, Fr.refl _ w⟩
  by_cases h1 : 4096 < l.length
  · have HC := hide (chk_len (.inr h1))
    have e0 : ((l.length : Int) == 0) = false := by rw [beq_eq_false_iff_ne]; omega
    have e1 : decide ((4096 : Int) < (l.length : Int)) = true := by simp; omega
    go_enter Tryz.func50, Tryz.ntmps50
    go_wp2
    go_ret2
    exact ⟨ret_ii HC.out, Fr.refl _ w⟩
  have hnl : ¬ (l.length = 0 ∨ 4096 < l.length) := by omega
  have e0 : ((l.length : Int) == 0) = false := by rw [beq_eq_false_iff_ne]; omega
  have e1 : decide ((4096 : Int) < (l.length : Int)) = false := by simp; omega
  obtain ⟨m, hm⟩ : ∃ m, l.length = m + 1 := ⟨l.length - 1, by omega⟩
  have hwl : IntKind.i64.wrap ((l.length : Int) - 1) = (m : Int) := by rw [IntKind.wrap_i64]; omega
  have HM := hide hm
  clear hm
  go_enter Tryz.func50, Tryz.ntmps50
  go_wp2_with fail
  go_loopw [21] (fun y wr => ∃ i : Nat, i ≤ l.length ∧ y = .int .i64 i ∧ (∀ j, j < i → ft l j = false) ∧ Fr nob w wr) (fun y _ => l.length - (intOf y).toNat)
  case atStart => exact ⟨0, Nat.zero_le _, rfl, fun j hj => absurd hj (Nat.not_lt_zero _), Fr.refl _ w⟩
  case round =>
    obtain ⟨i, hin, rfl, hb, f⟩ := hrel
    have hne : flat l ≠ [] := by intro e; have := flat_len l; rw [e] at this; simp at this; omega
    obtain ⟨b, off, rfl, hseg⟩ := (hv.fr0 f).some hne
    have HB := hide hb
    clear hb
    by_cases hlt : i < l.length
    · obtain ⟨v0, v1, v2, v3⟩ := hseg.ins i hlt
      have hbl : b < wr.heap.size := World.block_lt_of_cell? wr _ v0
      have hgo : (gI l i).ok := by rw [gI_eq l i hlt]; exact hok _ (List.getElem_mem hlt)
      obtain ⟨x, hx⟩ : ∃ x, x = gI l i := ⟨_, rfl⟩
      rw [← gI_eq l i hlt, ← hx] at v0 v1 v2 v3
      rw [← hx] at hgo
      obtain ⟨left, hleft⟩ : ∃ left : Int, left = (l.length : Int) - 1 - i := ⟨_, rfl⟩
      have hw1 : IntKind.i64.wrap ((m : Int) - (i : Int)) = left := by have := HM.out; rw [IntKind.wrap_i64]; omega
      have hw2 : IntKind.u32.wrap left = left := by simp [IntKind.wrap, IntKind.bits, IntKind.signed]; omega
      have HF : Hid (∀ w, Calls Tryz.prog 61 #[.agg #[.int .u16 x.code, .int .u8 x.jt, .int .u8 x.jf, .int .u32 x.k], .int .u32 left] w fun e w' => e = .returned (.int .i64 (flt x left)) ∧ Fr nob w w') :=
        fun w => fault_any w x left (by omega) (by omega) hgo
      have HX := hide hx
      have HL := hide hleft
      clear hx hseg hgo hleft
      go_wp2_with fail
      refine (HF.out _).mono ?_
      rintro e w2 ⟨rfl, f2⟩
      have F2 : Fr nob w w2 := Fr.trans (f.alloc _) f2
      obtain ⟨ev, hev⟩ : ∃ ev, ev = flt x left := ⟨_, rfl⟩
      rw [← hev]
      have HE := hide hev
      clear hev f2
      by_cases hz : ev = 0
      · have hfi : ft l i = false := by
          have h1 := HE.out
          rw [HX.out, HL.out, hz] at h1
          unfold ft
          rw [← h1]; rfl
        have HFI := hide hfi
        clear hfi
        subst hz
        go_wp2
        go_roundw
        case rel => exact ⟨i + 1, by omega, by go_num, lt_succ_or HB.out HFI.out, F2⟩
        case measure => simp [intOf]; omega
      · have hz' : (ev == 0) = false := by simp [hz]
        have hc : chk l = (ev, (i : Int)) := by
          have h1 := HE.out
          rw [HX.out, HL.out] at h1
          rw [h1]
          exact chk_bad hnl i hlt HB.out (by rw [← h1]; exact hz)
        have HC := hide hc
        clear hc
        go_wp2
        go_ret2
        exact ⟨ret_ii HC.out, F2⟩
    · have hil : i = l.length := by omega
      have hlt2 : m < l.length := by have := HM.out; omega
      obtain ⟨v0, v1, v2, v3⟩ := hseg.ins m hlt2
      have hbl : b < wr.heap.size := World.block_lt_of_cell? wr _ v0
      obtain ⟨x, hx⟩ : ∃ x, x = gI l m := ⟨_, rfl⟩
      rw [← gI_eq l _ hlt2, ← hx] at v0
      have HV := hide (hv.fr0 f)
      obtain ⟨k, hk⟩ : ∃ k, k = knd x.code := ⟨_, rfl⟩
      have hb : ∀ j, j < l.length → ft l j = false := fun j hj => HB.out j (by omega)
      have hkk : knd (gI l (l.length - 1)).code = k := by rw [hk, hx, HM.out]; rfl
      have HKK := hide hkk
      have HB2 := hide hb
      have HOK := hide hok
      clear hx hseg v1 v2 v3 hkk hb HB hok
      go_wp2_with fail
      refine (kindOf_any _ _).mono ?_
      rintro e w2 ⟨rfl, rfl⟩
      rw [← hk]
      clear hk
      by_cases h9 : k = 9
      · have HG := hide (good_of hnl HOK.out HB2.out (HKK.out.trans h9))
        have HC := hide (chk_uns hnl HB2.out (HKK.out.trans h9))
        have HU : Hid (∀ cap, Calls Tryz.prog 63 #[.slice (some ⟨b, off, none⟩) l.length cap] w2 fun e w' => e = .returned (.tuple #[.int .i64 (uns l).1, .int .i64 (uns l).2]) ∧ Fr nob w2 w') := fun cap => unset_any w2 _ cap l HV.out HG.out
        subst h9
        go_wp2_with fail
        refine (HU.out _).mono ?_
        rintro e w3 ⟨rfl, f3⟩
        go_wp2
        go_ret2
        exact ⟨by rw [HC.out]; rfl, Fr.trans f f3⟩
      · have hz' : (k == 9) = false := by simp [h9]
        have hc : chk l = (8, (m : Int)) := by
          rw [chk_end hnl HB2.out (by rw [HKK.out]; exact h9), HM.out]
          congr 1; omega
        have HC := hide hc
        clear hc
        go_wp2
        go_ret2
        exact ⟨ret_ii HC.out, f⟩

set_option maxRecDepth 100000 in
theorem sCheck_any (w : World) (ao : Option Addr) (cap : Nat) (l : List Ins) (hv : View w ao (flat l)) (hok : ∀ x ∈ l, x.ok) :
    Calls Tryz.prog 29 #[.slice ao l.length cap] w fun e w' => e = .returned (.tuple #[.int .i64 (chk l).1, .int .i64 (chk l).2]) ∧ Fr nob w w' := by
  have HU : Hid (Calls Tryz.prog 50 #[.slice ao l.length cap] w fun e w' => e = .returned (.tuple #[.int .i64 (chk l).1, .int .i64 (chk l).2]) ∧ Fr nob w w') := cProgram_any w ao cap l hv hok
  go_enter Tryz.func29, Tryz.ntmps29
  go_wp2_with fail
  refine (HU.out).mono ?_
  rintro e w3 ⟨rfl, f3⟩
  go_wp2
  go_ret2
  exact ⟨rfl, f3⟩
#print axioms sCheck_any
end Go.Proofs.YtjgcfffepkmojaaGreat
