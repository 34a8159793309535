import Derived.Test.YtjgcfffepkmojaaGreatMRun
namespace Go.Proofs.YtjgcfffepkmojaaGreat
open Go.RowKit
set_option linter.unusedVariables false

theorem ret_vn {v v' : Int} {n n' : Nat} (h : v' = v) (k : n' = n) : Ending.returned (.tuple #[.int .u32 v, .int .i64 (n : Int)]) = .returned (.tuple #[.int .u32 v', .int .i64 (n' : Int)]) := by rw [h, k]
theorem ret_vne {a b c : Int} {p : Int × Int × Int} (h : p = (a, b, c)) : Ending.returned (.tuple #[.int .u32 a, .int .i64 b, .int .i64 c]) = .returned (.tuple #[.int .u32 p.1, .int .i64 p.2.1, .int .i64 p.2.2]) := by rw [h]
theorem fr_new {w w' : World} {S : Nat → Prop} {a : World} {g : Nat} (h : Fr S a w) (hg : a.heap.size ≤ g) (f : Fr (only g) w w') : Fr S a w' :=
  h.step f (fun x hx e => by have e' : x = g := e; omega)

set_option maxRecDepth 100000 in
set_option maxHeartbeats 2000000 in
theorem play_any (w : World) (ao : Option Addr) (cap : Nat) (l : List Ins) (hv : View w ao (flat l)) (h : Good l) (r : ByteArray) (hr : r.size = 64) :
    Calls Tryz.prog 38 #[.slice ao l.length cap, .string r] w fun e w' => e = .returned (.tuple #[.int .u32 (ver l r), .int .i64 (fin l r : Int)]) ∧ Fr nob w w' := by
  have hpos := h.pos
  have hle := h.le
  have HG := hide h
  clear h
  have hb0 : MB (w.alloc (.cells (mcs m0).toArray 115)) w.heap.size m0 := heap_alloc_new w _
  have f0 : Fr nob w (w.alloc (.cells (mcs m0).toArray 115)) := (Fr.refl _ w).alloc _
  have HB0 := hide hb0
  have F0 := hide f0
  clear hb0 f0
  go_enter Tryz.func38, Tryz.ntmps38
  go_wp2_with fail
  go_loopw [7] (fun y wr => ∃ n : Nat, n ≤ l.length ∧ y = .int .i64 n ∧ MB wr w.heap.size (stN l r n) ∧ (∀ j, j < n → (stN l r j).e = false) ∧ Fr nob w wr) (fun y _ => l.length - (intOf y).toNat)
  case atStart => exact ⟨0, Nat.zero_le _, rfl, HB0.out, fun j hj => absurd hj (Nat.not_lt_zero _), F0.out⟩
  case round =>
    clear HB0 F0
    obtain ⟨n, hn, rfl, hb, hj, f⟩ := hrel
    obtain ⟨m, hm⟩ : ∃ m, m = stN l r n := ⟨_, rfl⟩
    rw [← hm] at hb
    have c19 := hb.cell 19 (.bool m.e) rfl
    have c20 := hb.cell 20 (.int .u32 m.v) rfl
    have c18 := hb.cell 18 (.int .i64 m.pc) rfl
    have hgl := hb.lt
    have HM := hide hm
    have HB := hide hb
    have HJ := hide hj
    have FF := hide f
    clear hb hm hj
    cases he : m.e with
    | true =>
      have hfin : fin l r = n := fin_eq hn (by rw [← HM.out]; exact he) HJ.out
      have hver : ver l r = m.v := by unfold ver; rw [hfin, HM.out]
      have HF := hide hfin
      have HV := hide hver
      clear hfin hver f
      rw [he] at c19
      clear he
      go_wp2_with fail
      go_ret2
      exact ⟨ret_vn HV.out HF.out, FF.out⟩
    | false =>
      have hall : ∀ j, j ≤ n → (stN l r j).e = false := fun j h1 => by
        rcases Nat.lt_or_ge j n with h2 | h2
        · exact HJ.out j h2
        · rw [show j = n by omega, ← HM.out]; exact he
      obtain ⟨i1, i2⟩ := stN_inv HG.out r n hall
      rw [← HM.out] at i1 i2
      have hlt : n < l.length := by omega
      have hne : flat l ≠ [] := by intro e; have := flat_len l; rw [e] at this; simp at this; omega
      obtain ⟨b, off, rfl, hseg⟩ := (hv.fr0 f).some hne
      obtain ⟨x, hx⟩ : ∃ x, x = gI l m.pc := ⟨_, rfl⟩
      obtain ⟨v0, v1, v2, v3⟩ := seg_x hseg i1 hx
      have hbl : b < wr.heap.size := World.block_lt_of_cell? wr _ v0
      have hS := step_any wr w.heap.size m HB.out (by rw [HM.out]; exact stN_ok HG.out r n) x (by rw [hx]; exact HG.out.gok i1) (by omega) r hr _ (by rw [hx]; exact HG.out.no _ i1)
      have hnext : stp x r m = stN l r (n + 1) := by rw [hx]; show _ = stp _ r (stN l r n); rw [← HM.out]
      rw [hnext] at hS
      have HS := hide hS
      have HE := hide hall
      rw [he] at c19
      clear hS hnext hx hseg hall he f
      go_wp2_with fail
      refine HS.out.mono ?_
      rintro e w2 ⟨rfl, hb2, f2⟩
      have F2 : Fr nob w w2 := fr_new FF.out (Nat.le_refl _) f2
      go_wp2
      go_roundw
      case rel => exact ⟨n + 1, by omega, by go_num, hb2, fun j hj => HE.out j (by omega), F2⟩
      case measure => simp [intOf]; omega

set_option maxRecDepth 100000 in
set_option maxHeartbeats 2000000 in
theorem rRun_any (w : World) (ao : Option Addr) (cap : Nat) (l : List Ins) (hv : View w ao (flat l)) (hok : ∀ x ∈ l, x.ok) (r : ByteArray) (hr : r.size ≤ 140737488355328) :
    Calls Tryz.prog 32 #[.slice ao l.length cap, .string r] w fun e w' => e = .returned (.tuple #[.int .u32 (runA l r).1, .int .i64 (runA l r).2.1, .int .i64 (runA l r).2.2]) ∧ Fr nob w w' := by
  have HK : Hid (Calls Tryz.prog 30 #[.slice ao l.length cap] w fun e w' => e = .returned (.tuple #[.int .i64 (chk l).1, .int .i64 (chk l).2]) ∧ Fr nob w w') := rCheck_any w ao cap l hv hok
  have HV := hide hv
  have HOK := hide hok
  clear hv hok
  go_enter Tryz.func32, Tryz.ntmps32
  go_wp2_with fail
  refine HK.out.mono ?_
  rintro e w1 ⟨rfl, f1⟩
  have F1 := hide f1
  clear f1 HK
  obtain ⟨ce, hce⟩ : ∃ ce, ce = (chk l).1 := ⟨_, rfl⟩
  obtain ⟨cn, hcn⟩ : ∃ cn, cn = (chk l).2 := ⟨_, rfl⟩
  rw [← hce, ← hcn]
  clear hcn
  by_cases h0 : ce = 0
  · have hg : Good l := chk_good HOK.out (by rw [← hce]; exact h0)
    by_cases h64 : r.size = 64
    · have hA : runA l r = (ver l r, (fin l r : Int), 0) := by unfold runA; rw [if_neg (by rw [← hce]; simpa using h0), if_neg (by simpa using h64)]
      have HP : Hid (Calls Tryz.prog 38 #[.slice ao l.length cap, .string r] w1 fun e w' => e = .returned (.tuple #[.int .u32 (ver l r), .int .i64 (fin l r : Int)]) ∧ Fr nob w1 w') := play_any w1 ao cap l (HV.out.fr0 F1.out) hg r h64
      have HA := hide hA
      have hi64 : (r.size : Int) = 64 := by omega
      clear hA hce hg h64
      subst h0
      go_wp2_with fail
      refine HP.out.mono ?_
      rintro e w2 ⟨rfl, f2⟩
      have F2 := hide (F1.out.trans f2)
      clear f2
      go_wp2_with fail
      go_ret3
      exact ⟨ret_vne HA.out, F2.out⟩
    · have hA : runA l r = (0, 0, 10) := by unfold runA; rw [if_neg (by rw [← hce]; simpa using h0), if_pos h64]
      have HA := hide hA
      have hi64 : ((r.size : Int) == 64) = false := by rw [beq_eq_false_iff_ne]; omega
      clear hA hce hg
      subst h0
      go_wp2_with fail
      go_ret3
      exact ⟨ret_vne HA.out, F1.out⟩
  · have hA : runA l r = (0, 0, ce) := by unfold runA; rw [if_pos (by rw [← hce]; exact h0), hce]
    have HA := hide hA
    have hz : (ce == 0) = false := by simp [h0]
    clear hA hce h0
    go_wp2_with fail
    go_ret3
    exact ⟨ret_vne HA.out, F1.out⟩
#print axioms rRun_any
end Go.Proofs.YtjgcfffepkmojaaGreat
