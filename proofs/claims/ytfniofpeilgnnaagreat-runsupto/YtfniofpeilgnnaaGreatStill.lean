import Derived.Test.YtfniofpeilgnnaaGreatLent
namespace Go.Proofs.YtfniofpeilgnnaaGreat
open Go.RowKit
set_option linter.unusedVariables false

set_option maxRecDepth 100000 in
set_option maxHeartbeats 1000000 in
theorem program_any (w : World) (ao : Option Addr) (cap : Nat) (l : List Ins) (hv : View w ao (flat l)) (hz : ao = none → l.length = 0) (hs : l.length ≤ 100000000) :
    Calls Tryz.prog 20 #[.slice ao l.length cap] w fun e w' => e = .returned (.slice (some ⟨w.heap.size, 0, none⟩) (l.length + 8) (l.length + 8)) ∧
      Own w' 29 4 (some ⟨w.heap.size, 0, none⟩) (l.length + 8) (l.length + 8) (flat (l ++ List.replicate 8 zIns)) ∧ Fr nob w w' := by
  obtain ⟨i0, hi, hz0, hz1, hz2⟩ := info_parts info_insn
  go_enter Tryz.func20, Tryz.ntmps20
  go_wp2_with (at_make; refine wpList_make_full _ rfl _ _ 30 rfl 0 29 i0 _ 4 Tryz.underlying30 hi hz0 hz1 _ _ _ _ (l.length + 8) rfl rfl (by omega) (by omega) ?b1 ?b2 ?b3 ?_)
  case b1 => rw [hz2]; omega
  case b2 => unfold maxLen; omega
  case b3 => omega
  intro w1 o1 g1
  have f1 : Fr nob w w1 := (Fr.refl _ w).grown g1 (fun k _ h => by cases h)
  have hlt1 : w.heap.size < w1.heap.size := own_lt o1 (by simp [bk, Value.ownBlock])
  obtain ⟨w2, hrun, o2, f2⟩ := run_copy_into (P := Tryz.prog) (w := w1) 30 30 3 29 i0 4 Tryz.underlying30 hi hz1 w.heap.size (l.length + 8) (l.length + 8) _ o1 ao l.length cap (flat l) (hv.fr0 f1) (flat_len l) (by omega) (flat_oneCell l) hz (by decide)
  have hz8 : (madeCells #[Value.int .u16 0, Value.int .u8 0, Value.int .u8 0, Value.int .u32 0] ((l.length + 8) * 4)).toList.drop (l.length * 4) = flat (List.replicate 8 zIns) := by
    rw [made_rep #[Value.int .u16 0, Value.int .u8 0, Value.int .u8 0, Value.int .u32 0] (l.length + 8) 4 rfl (by decide), ← rep_flat]
    exact rep_drop zIns.cs l.length 8
  rw [hz8, ← flat_append] at o2
  have f12 : Fr nob w w2 := f1.step f2 (fun k hk e => by omega)
  clear hz8 o1 g1 f1
  go_wp2_with (at_builtin; refine wpList_copy_run rfl _ _ 30 30 rfl _ _ _ w2 rfl rfl hrun ?_)
  go_ret
  exact ⟨rfl, o2, f12⟩

set_option maxRecDepth 100000 in
set_option maxHeartbeats 1000000 in
theorem still_any (w : World) (g cap : Nat) (s : ByteArray) (hs : s.size ≤ 100000000) (h : Own w 5 1 (some ⟨g, 0, none⟩) (s.size + 8) cap (bcs s ++ b201 8)) :
    Calls Tryz.prog 25 #[.slice (some ⟨g, 0, none⟩) (s.size + 8) cap, .string s] w fun e w' => e = .returned (.bool true) ∧ Fr nob w w' := by
  go_enter Tryz.func25, Tryz.ntmps25
  go_wp2_with fail
  go_loopw [5] (fun i wr => ∃ k : Nat, k ≤ s.size + 8 ∧ i = .int .i64 k ∧ Fr nob w wr) (fun i _ => s.size + 8 - (intOf i).toNat)
  case atStart => exact ⟨0, Nat.zero_le _, rfl, Fr.refl _ _⟩
  case round =>
    obtain ⟨k, hk, rfl, f⟩ := hrel
    have hw := own_fr h f (fun _ _ h => h)
    by_cases hlt : k < s.size + 8
    · by_cases h1 : k < s.size
      · have hu : wr.cell? ⟨g, k, none⟩ = some (.int .u8 (s[k]'h1).toNat) := own_get hw (by rw [List.getElem?_append_left (by rw [bcs_len]; exact h1)]; exact bcs_get s k h1)
        have hd : decide (s.size ≤ k) = false := by simp; omega
        clear hw
        go_wp2_with fail
        go_quiet (fail)
        go_wp2
        go_roundw
        case rel => exact ⟨k + 1, by omega, by go_num, f.drewN _⟩
        case measure => simp [intOf]; omega
      · have hu : wr.cell? ⟨g, k, none⟩ = some (.int .u8 201) := own_get hw (by rw [List.getElem?_append_right (by rw [bcs_len]; omega), bcs_len, b201, List.getElem?_replicate, if_pos (by omega)])
        have hd : decide ((k : Int) < (s.size : Int)) = false := by simp; omega
        have hge : (s.size : Int) ≤ (k : Int) := by omega
        clear hw
        go_wp2_with fail
        go_quiet (fail)
        go_wp2
        go_roundw
        case rel => exact ⟨k + 1, by omega, by go_num, f.drewN _⟩
        case measure => simp [intOf]; omega
    · go_wp2
      go_ret
      exact ⟨rfl, f⟩

/-- Seg's cells at an instruction's place. -/
theorem Seg.ins {w : World} {b off : Nat} {l : List Ins} (h : Seg w b off (flat l)) (k : Nat) (hk : k < l.length) :
    w.cell? ⟨b, off + k * 4, none⟩ = some (.int .u16 (l[k]).code) ∧ w.cell? ⟨b, off + k * 4 + 1, none⟩ = some (.int .u8 (l[k]).jt) ∧ w.cell? ⟨b, off + k * 4 + 2, none⟩ = some (.int .u8 (l[k]).jf) ∧ w.cell? ⟨b, off + k * 4 + 3, none⟩ = some (.int .u32 (l[k]).k) := by
  refine ⟨?_, ?_, ?_, ?_⟩
  · exact h (k * 4 + 0) _ ((flat_get l k 0 hk (by decide)).trans rfl)
  · exact h (k * 4 + 1) _ ((flat_get l k 1 hk (by decide)).trans rfl)
  · exact h (k * 4 + 2) _ ((flat_get l k 2 hk (by decide)).trans rfl)
  · exact h (k * 4 + 3) _ ((flat_get l k 3 hk (by decide)).trans rfl)
theorem own_ins {w : World} {g n cap : Nat} {l : List Ins} (h : Own w 29 4 (some ⟨g, 0, none⟩) n cap (flat l)) (k : Nat) (hk : k < l.length) :
    w.cell? ⟨g, k * 4, none⟩ = some (.int .u16 (l[k]).code) ∧ w.cell? ⟨g, k * 4 + 1, none⟩ = some (.int .u8 (l[k]).jt) ∧ w.cell? ⟨g, k * 4 + 2, none⟩ = some (.int .u8 (l[k]).jf) ∧ w.cell? ⟨g, k * 4 + 3, none⟩ = some (.int .u32 (l[k]).k) := by
  refine ⟨?_, ?_, ?_, ?_⟩
  · exact own_get h ((flat_get l k 0 hk (by decide)).trans rfl)
  · exact own_get h ((flat_get l k 1 hk (by decide)).trans rfl)
  · exact own_get h ((flat_get l k 2 hk (by decide)).trans rfl)
  · exact own_get h ((flat_get l k 3 hk (by decide)).trans rfl)

set_option maxRecDepth 100000 in
set_option maxHeartbeats 1000000 in
theorem kept_any (w : World) (g cap : Nat) (ao : Option Addr) (cap' : Nat) (l : List Ins) (hs : l.length ≤ 100000000) (h : Own w 29 4 (some ⟨g, 0, none⟩) (l.length + 8) cap (flat (l ++ List.replicate 8 zIns))) (hv : View w ao (flat l)) :
    Calls Tryz.prog 32 #[.slice (some ⟨g, 0, none⟩) (l.length + 8) cap, .slice ao l.length cap'] w fun e w' => e = .returned (.bool true) ∧ Fr nob w w' := by
  go_enter Tryz.func32, Tryz.ntmps32
  go_wp2_with fail
  go_loopw [5] (fun i wr => ∃ k : Nat, k ≤ l.length + 8 ∧ i = .int .i64 k ∧ Fr nob w wr) (fun i _ => l.length + 8 - (intOf i).toNat)
  case atStart => exact ⟨0, Nat.zero_le _, rfl, Fr.refl _ _⟩
  case round =>
    obtain ⟨k, hk, rfl, f⟩ := hrel
    have hw := own_fr h f (fun _ _ h => h)
    by_cases hlt : k < l.length + 8
    · obtain ⟨u0, u1, u2, u3⟩ := own_ins hw k (by simp; omega)
      by_cases h1 : k < l.length
      · obtain ⟨b, off, hao, hseg⟩ := (hv.fr0 f).some (by intro e; have := flat_len l; rw [e] at this; simp at this; omega)
        subst hao
        obtain ⟨v0, v1, v2, v3⟩ := hseg.ins k h1
        rw [List.getElem_append_left h1] at u0 u1 u2 u3
        have hd : decide (l.length ≤ k) = false := by simp; omega
        clear hw hseg hv
        go_wp2_with fail
        go_quiet (fail)
        go_wp2
        go_roundw
        case rel => exact ⟨k + 1, by omega, by go_num, f.drewN _⟩
        case measure => simp [intOf]; omega
      · rw [List.getElem_append_right (by omega), List.getElem_replicate] at u0 u1 u2 u3
        simp only [zIns] at u0 u1 u2 u3
        have hd : decide ((k : Int) < (l.length : Int)) = false := by simp; omega
        have hge : (l.length : Int) ≤ (k : Int) := by omega
        clear hw hv
        go_wp2_with fail
        go_quiet (fail)
        go_wp2
        go_roundw
        case rel => exact ⟨k + 1, by omega, by go_num, f.drewN _⟩
        case measure => simp [intOf]; omega
    · go_wp2
      go_ret
      exact ⟨rfl, f⟩

/-- 'same', of equal lists. -/
theorem same_any (w : World) (ao ao' : Option Addr) (cap cap' : Nat) (l : List Ins) (hs : l.length ≤ 100000000) (hv : View w ao (flat l)) (hv' : View w ao' (flat l)) :
    Calls Tryz.prog 24 #[.slice ao l.length cap, .slice ao' l.length cap'] w fun e w' => e = .returned (.bool true) ∧ Fr nob w w' := by
  go_enter Tryz.func24, Tryz.ntmps24
  go_wp2_with fail
  go_loopw [5] (fun i wr => ∃ k : Nat, k ≤ l.length ∧ i = .int .i64 k ∧ Fr nob w wr) (fun i _ => l.length - (intOf i).toNat)
  case atStart => exact ⟨0, Nat.zero_le _, rfl, Fr.refl _ _⟩
  case round =>
    obtain ⟨k, hk, rfl, f⟩ := hrel
    by_cases h1 : k < l.length
    · have hne : flat l ≠ [] := by intro e; have := flat_len l; rw [e] at this; simp at this; omega
      obtain ⟨b, off, rfl, hseg⟩ := (hv.fr0 f).some hne
      obtain ⟨b', off', rfl, hseg'⟩ := (hv'.fr0 f).some hne
      obtain ⟨v0, v1, v2, v3⟩ := hseg.ins k h1
      obtain ⟨u0, u1, u2, u3⟩ := hseg'.ins k h1
      clear hseg hseg' hv hv'
      go_wp2_with fail
      go_quiet (fail)
      go_wp2
      go_roundw
      case rel => exact ⟨k + 1, by omega, by go_num, f.drewN _⟩
      case measure => simp [intOf]; omega
    · go_wp2
      go_ret
      exact ⟨rfl, f⟩
#print axioms same_any
end Go.Proofs.YtfniofpeilgnnaaGreat
