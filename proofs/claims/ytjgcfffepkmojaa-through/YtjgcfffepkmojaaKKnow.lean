import Derived.Test.YtjgcfffepkmojaaKRec
import Derived.Test.YtjgcfffepkmojaaPRun
import Derived.Test.YtjgcfffepkmojaaSmall
import Derived.Test.YtjgcfffepkmojaaRNext
namespace Go.Proofs.Ytjgcfffepkmojaa
open Go.RowKit
set_option linter.unusedVariables false

set_option maxRecDepth 100000 in
set_option maxHeartbeats 2000000 in
/-- A program that is right has its verdict. -/
theorem verdict_any (w : World) (ao : Option Addr) (cap : Nat) (l : List Ins) (hv : View w ao (flat l)) (hok : ∀ x ∈ l, x.ok) (r : ByteArray) (v : Int) (n : Nat) (hA : runA l r = (v, (n : Int), 0)) (h1 : 1 ≤ n) (h2 : n ≤ l.length) :
    Calls Try.prog 14 #[.slice ao l.length cap, .string r] w fun e w' => e = .returned (.tuple #[.int .u32 v, .bool true]) ∧ Fr nob w w' := by
  have HR : Hid (Calls Try.prog 12 #[.slice ao l.length cap, .string r] w fun e w' => e = .returned (.tuple #[.int .u32 v, .int .i64 (n : Int), .int .i64 0]) ∧ Fr nob w w') := by
    have := sRun_any w ao cap l hv hok r
    rw [hA] at this
    exact this
  clear hA hv hok
  have q1 : (1 : Int) ≤ (n : Int) := by omega
  have q2 : (n : Int) ≤ (l.length : Int) := by omega
  go_enter Try.func14, Try.ntmps14
  go_wp2_with fail
  refine HR.out.mono ?_
  rintro e w1 ⟨rfl, f1⟩
  have F1 := hide f1
  clear f1 HR
  go_wp2
  go_ret2
  exact ⟨rfl, F1.out⟩

def prA : List Ins := [⟨96, 0, 0, 3⟩, ⟨22, 0, 0, 0⟩]
def prB : List Ins := [⟨32, 0, 0, 4⟩, ⟨22, 0, 0, 0⟩]
theorem prA_ok : ∀ x ∈ prA, x.ok := by
  intro x hx
  simp only [prA, List.mem_cons, List.not_mem_nil, or_false] at hx
  rcases hx with rfl | rfl
  all_goals exact ok_lit _ _ (by decide) (by decide) (by decide) (by decide)
theorem prB_ok : ∀ x ∈ prB, x.ok := by
  intro x hx
  simp only [prB, List.mem_cons, List.not_mem_nil, or_false] at hx
  rcases hx with rfl | rfl
  all_goals exact ok_lit _ _ (by decide) (by decide) (by decide) (by decide)
theorem lt2 {p : Nat → Prop} (h0 : p 0) (h1 : p 1) : ∀ j, j < 2 → p j := fun j hj => by
  match j, hj with
  | 0, _ => exact h0
  | 1, _ => exact h1
  | n + 2, h => exact absurd h (by omega)
theorem prA_chk : chk prA = (9, 0) := by
  have h1 : ∀ j, j < prA.length → ft prA j = false := lt2 (p := fun j => ft prA j = false) (by decide) (by decide)
  rw [chk_uns (l := prA) (by decide) h1 (by decide)]
  exact uns_at (l := prA) (i := 0) (by decide) (by decide) (fun j hj => absurd hj (Nat.not_lt_zero _))
theorem prB_good : Good prB := ⟨by decide, by decide, prB_ok, lt2 (p := fun j => flt (gI prB j) ((prB.length : Int) - 1 - j) = 0) (by decide) (by decide), by decide⟩
theorem prB_run (r : ByteArray) (hr : r.size = 64) : runA prB r = (wd r 4, ((2 : Nat) : Int), 0) := by
  have hf : Fine prB := fine_nocell prB_good (lt2 (p := fun j => knd (gI prB j).code ≠ 5) (by decide) (by decide))
  have hN : fin prB r = 2 := fin_eq (by decide) rfl (lt2 (p := fun j => (stN prB r j).e = false) rfl rfl)
  rw [runA_ok (by rw [hf.chk]) hr]
  unfold ver
  rw [hN]
  rfl
theorem fr_view {w w' : World} {ao : Option Addr} {xs : List Value} (h : View w ao xs) (f : Fr nob w w') : View w' ao xs := h.fr0 f
def q0 : Nat → Int := fun _ => 0
theorem q0_u64 : ∀ k, U64 (q0 k) := fun _ => (show U64 0 from ⟨by decide, by decide⟩)

set_option maxRecDepth 100000 in
set_option maxHeartbeats 2000000 in
theorem known_any (w : World) : Calls Try.prog 10 #[] w fun e w' => e = .returned (.bool true) ∧ Fr nob w w' := by
  have hvA : View (w.alloc (.cells (flat prA).toArray 32)) (some ⟨w.heap.size, 0, none⟩) (flat prA) := view_new w _ _
  have fA : Fr nob w (w.alloc (.cells (flat prA).toArray 32)) := (Fr.refl _ w).alloc _
  have HA : Hid (Calls Try.prog 11 #[.slice (some ⟨w.heap.size, 0, none⟩) 2 2] (w.alloc (.cells (flat prA).toArray 32)) fun e w' => e = .returned (.tuple #[.int .i64 9, .int .i64 0]) ∧ Fr nob (w.alloc (.cells (flat prA).toArray 32)) w') := by
    have := sCheck_any (w.alloc (.cells (flat prA).toArray 32)) (some ⟨w.heap.size, 0, none⟩) 2 prA hvA prA_ok
    rw [prA_chk] at this
    exact this
  have FA := hide fA
  clear hvA fA
  go_enter Try.func10, Try.ntmps10
  go_wp2_with fail
  refine HA.out.mono ?_
  rintro e w1 ⟨rfl, f1⟩
  have F1 := hide (FA.out.trans f1)
  clear f1 HA FA
  have hvB : View (w1.alloc (.cells (flat prB).toArray 32)) (some ⟨w1.heap.size, 0, none⟩) (flat prB) := view_new w1 _ _
  have fB : Fr nob w (w1.alloc (.cells (flat prB).toArray 32)) := F1.out.alloc _
  have HVB := hide hvB
  have FB := hide fB
  clear hvB fB F1
  go_wp2_with fail
  refine (record_any _ 1 77 ⟨by decide, by decide⟩ ⟨by decide, by decide⟩ q0 q0_u64).mono ?_
  rintro e w2 ⟨rfl, f2⟩
  have F2 := hide (FB.out.trans f2)
  have hr := rec_size 1 77 q0
  have hw := rec_wd4 1 77 q0 ⟨by decide, by decide⟩
  have hA := prB_run (recB 1 77 q0) hr
  rw [hw] at hA
  have HR := hide (verdict_any w2 (some ⟨w1.heap.size, 0, none⟩) 2 prB (HVB.out.fr0 f2) prB_ok (recB 1 77 q0) 77 2 hA (by decide) (by decide))
  clear f2 hr hw hA
  go_wp2_with fail
  refine HR.out.mono ?_
  rintro e w3 ⟨rfl, f3⟩
  have F3 := hide (F2.out.trans f3)
  clear f3 HR
  go_wp2
  go_ret
  exact ⟨rfl, F3.out⟩
#print axioms known_any
end Go.Proofs.Ytjgcfffepkmojaa
