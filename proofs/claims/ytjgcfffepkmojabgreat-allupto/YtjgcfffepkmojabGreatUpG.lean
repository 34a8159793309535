import Derived.Test.YtjgcfffepkmojabGreatUpTo
namespace Go.Proofs.YtjgcfffepkmojabGreat
open Go.RowKit
set_option linter.unusedVariables false

/-! ### The frame of every script, whatever its steps keep -/
/-- So much a step may add to what is kept. -/
def OpR.gr (o : OpR) : Nat := 12 + 4 * (o.n1 + o.n2)
/-- What holds of the script's world between its steps. -/
structure Wld (B : Nat) (Wd : World → List Nat → Prop) : Prop where
  inv : ∀ w hs, Wd w hs → ∃ ps row, Inv w B B ps hs (fun x => x < w.heap.size) anyQ row
  fr : ∀ w w' hs, Wd w hs → Fr nob w w' → Wd w' hs
  made : ∀ w : World, w.heap.size = B → Wd (w.alloc (.cells #[.slice none 0 0, .slice none 0 0] 46)) []
theorem take_sum (ops : List OpR) (k : Nat) : ((ops.take k).map OpR.gr).sum ≤ (ops.map OpR.gr).sum := by
  conv => rhs; rw [← List.take_append_drop k ops]
  rw [List.map_append, List.sum_append]
  omega
/-- Each step of these kinds is as it must be. -/
def StepG (Wd : Nat → World → List Nat → Prop) (least last : Int) : Prop := ∀ (B : Nat) (o : OpR), least ≤ o.kind → o.kind ≤ last → ∀ w1 hs, Wd B w1 hs → hs.length + o.gr ≤ 90000000 → o.ok w1 B →
  Calls Tryz.prog 7 #[.pointer (some ⟨B, 0, none⟩), o.v] w1 fun e w' => e = .returned (.bool true) ∧ ∃ hs', Wd B w' hs' ∧ hs'.length ≤ hs.length + o.gr ∧ Fr (up B) w1 w'
/-- No player is made. -/
def atW (B : Nat) (w : World) (hs : List Nat) : Prop := AtA w B B (.slice none 0 0) hs
theorem atW_wld (B : Nat) : Wld B (atW B) := ⟨fun w hs h => ⟨_, h.inv⟩, fun w w' hs h f => AtA.fr h f, fun w hw => by subst hw; exact At.made w⟩

set_option maxRecDepth 100000 in
set_option maxHeartbeats 2000000 in
/-- 'UpTo', where each step of the kinds that are played is as it must be, and no player is made. -/
theorem upto_g (w : World) (so : Option Addr) (cap : Nat) (ops : List OpR) (least last : Int) (hv : View w so (ocs ops)) (hl : ops.length ≤ 10000000)
    (hok : ∀ o ∈ ops, o.ok w w.heap.size) (Wd : World → List Nat → Prop) (hW : Wld w.heap.size Wd) (hgr : (ops.map OpR.gr).sum ≤ 80000000)
    (hstep : ∀ o ∈ ops, least ≤ o.kind → o.kind ≤ last → ∀ w1 hs, Wd w1 hs → hs.length + o.gr ≤ 90000000 → o.ok w1 w.heap.size →
      Calls Tryz.prog 7 #[.pointer (some ⟨w.heap.size, 0, none⟩), o.v] w1 fun e w' => e = .returned (.bool true) ∧ ∃ hs', Wd w' hs' ∧ hs'.length ≤ hs.length + o.gr ∧ Fr (up w.heap.size) w1 w') :
    Calls Tryz.prog 5 #[.slice so ops.length cap, .int .i64 least, .int .i64 last] w fun e w' => e = .returned (.int .i64 (-1)) ∧ Fr nob w w' := by
  have HS := hide hstep
  have HOK := hide hok
  clear hstep hok
  have hA0 := hW.made w rfl
  have HW := hide hW
  clear hW
  have f0 : Fr nob w (w.alloc (.cells #[.slice none 0 0, .slice none 0 0] 46)) := (Fr.refl _ w).alloc _
  go_enter Tryz.func5, Tryz.ntmps5
  go_wp2_with fail
  go_loopw [8] (fun i wr => ∃ (k : Nat) (hs : List Nat), k ≤ ops.length ∧ i = .int .i64 k ∧ Wd wr hs ∧ hs.length ≤ ((ops.take k).map OpR.gr).sum ∧ Fr nob w wr) (fun i _ => ops.length - (intOf i).toNat)
  case atStart => exact ⟨0, [], Nat.zero_le _, rfl, hA0, by simp, f0⟩
  case round =>
    clear hA0 f0
    obtain ⟨k, hs, hk, rfl, hA, hlen, f⟩ := hrel
    by_cases hlt : k < ops.length
    · have hsum : ((ops.take (k + 1)).map OpR.gr).sum = ((ops.take k).map OpR.gr).sum + (ops[k]).gr := by
        rw [List.take_succ_eq_append_getElem hlt, List.map_append, List.sum_append]
        simp only [List.map_cons, List.map_nil, List.sum_cons, List.sum_nil, Nat.add_zero]
      have hle := take_sum ops (k + 1)
      have hne : ocs ops ≠ [] := by intro e; have := ocs_len ops; rw [e] at this; simp at this; omega
      obtain ⟨b, off, hso, hseg⟩ := (hv.fr0 f).some hne
      have hcell : ∀ j v, j < 9 → (ops[k]).cs[j]? = some v → wr.cell? ⟨b, off + k * 9 + j, none⟩ = some v := fun j v hj hv => by
        rw [Nat.add_assoc]; exact hseg (k * 9 + j) v ((ocs_get ops k j hlt hj).trans hv)
      obtain ⟨o, hoe⟩ : ∃ o, o = ops[k] := ⟨_, rfl⟩
      have hmem : o ∈ ops := by rw [hoe]; exact List.getElem_mem hlt
      rw [← hoe] at hcell hsum
      have HO := hide hoe
      subst hso
      have g0 : wr.cell? ⟨b, off + k * 9, none⟩ = some (.int .i64 o.kind) := hcell 0 _ (by decide) rfl
      have g1 : wr.cell? ⟨b, off + k * 9 + 1, none⟩ = some (.int .i64 o.N) := hcell 1 _ (by decide) rfl
      have g2 : wr.cell? ⟨b, off + k * 9 + 2, none⟩ = some (.slice o.ao o.l.length o.cap) := hcell 2 _ (by decide) rfl
      have g3 : wr.cell? ⟨b, off + k * 9 + 3, none⟩ = some (.string o.s) := hcell 3 _ (by decide) rfl
      have g4 : wr.cell? ⟨b, off + k * 9 + 4, none⟩ = some (.int .u32 o.q0) := hcell 4 _ (by decide) rfl
      have g5 : wr.cell? ⟨b, off + k * 9 + 5, none⟩ = some (.slice o.a1 o.n1 o.c1) := hcell 5 _ (by decide) rfl
      have g6 : wr.cell? ⟨b, off + k * 9 + 6, none⟩ = some (.int .u32 o.q2) := hcell 6 _ (by decide) rfl
      have g7 : wr.cell? ⟨b, off + k * 9 + 7, none⟩ = some (.int .u32 o.q3) := hcell 7 _ (by decide) rfl
      have g8 : wr.cell? ⟨b, off + k * 9 + 8, none⟩ = some (.slice o.a2 o.n2 o.c2) := hcell 8 _ (by decide) rfl
      clear hoe hcell hseg
      by_cases hin : least ≤ o.kind ∧ o.kind ≤ last
      · have i1 : ¬ o.kind < least := by omega
        have i2 : ¬ last < o.kind := by omega
        have hc := HS.out o hmem hin.1 hin.2 wr hs hA (by omega) ((HOK.out o hmem).fr (f.mono (fun _ _ h => h.elim)))
        have HC := hide hc
        clear hin hc
        go_wp2_with fail
        refine HC.out.mono ?_
        rintro e w1 ⟨rfl, hs1, hA1, hl1, f1⟩
        have F1 : Fr nob w w1 := f.step f1 (fun x hx h => by simp only [up] at h; omega)
        clear f1 HC
        obtain ⟨ps1, row1, hI1⟩ := HW.out.inv _ _ hA1
        go_wp2_with fail
        refine (looks_any _ w.heap.size w.heap.size _ hs1 _ row1 hI1 (by omega)).mono ?_
        rintro e w2 ⟨rfl, f2⟩
        have hA2 := HW.out.fr _ _ _ hA1 f2
        have F2 : Fr nob w w2 := F1.trans f2
        clear f2 hA1 hI1 F1
        go_wp2
        go_roundw
        case rel => exact ⟨k + 1, hs1, by omega, by go_num, hA2, by omega, F2⟩
        case measure => simp [intOf]; omega
      · clear g1 g2 g3 g4 g5 g6 g7 g8
        by_cases i1 : o.kind < least
        · clear hin
          go_wp2
          go_roundw
          case rel => exact ⟨k + 1, hs, by omega, by go_num, hA, by omega, f⟩
          case measure => simp [intOf]; omega
        · have i2 : last < o.kind := by omega
          clear hin
          go_wp2
          go_roundw
          case rel => exact ⟨k + 1, hs, by omega, by go_num, hA, by omega, f⟩
          case measure => simp [intOf]; omega
    · go_wp2
      go_ret
      exact ⟨rfl, f⟩
#print axioms upto_g
end Go.Proofs.YtjgcfffepkmojabGreat
