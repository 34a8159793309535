import Derived.Test.YtjgcfffepkmojaaKKnow
namespace Go.Proofs.Ytjgcfffepkmojaa
open Go.RowKit
set_option linter.unusedVariables false

theorem chk_place (l : List Ins) : 0 ≤ (chk l).2 ∧ ((chk l).2 < (l.length : Int) ∨ (chk l).2 = 0) := by
  by_cases h0 : l.length = 0 ∨ 4096 < l.length
  · rw [chk_len h0]
    exact ⟨by decide, .inr rfl⟩
  · unfold chk
    rw [if_neg h0]
    cases hf : (List.range l.length).find? (ft l) with
    | some i =>
      have h1 := List.mem_range.1 (List.mem_of_find?_eq_some hf)
      exact ⟨by show (0 : Int) ≤ (i : Int); omega, .inl (by show (i : Int) < _; omega)⟩
    | none =>
      simp only
      split
      · unfold uns
        cases hg : (List.range l.length).find? (bad l) with
        | some i =>
          have h1 := List.mem_range.1 (List.mem_of_find?_eq_some hg)
          exact ⟨by show (0 : Int) ≤ (i : Int); omega, .inl (by show (i : Int) < _; omega)⟩
        | none => exact ⟨by decide, .inr rfl⟩
      · exact ⟨by show (0 : Int) ≤ (l.length : Int) - 1; omega, .inl (by show (l.length : Int) - 1 < _; omega)⟩

/-- A call of the program's Run, its answer given. -/
theorem run_is (w : World) (ao : Option Addr) (cap : Nat) (l : List Ins) (hv : View w ao (flat l)) (hok : ∀ x ∈ l, x.ok) (r : ByteArray) (v n e : Int) (hA : runA l r = (v, n, e)) :
    Calls Try.prog 12 #[.slice ao l.length cap, .string r] w fun e' w' => e' = .returned (.tuple #[.int .u32 v, .int .i64 n, .int .i64 e]) ∧ Fr nob w w' := by
  have := sRun_any w ao cap l hv hok r
  rw [hA] at this
  exact this
theorem check_is (w : World) (ao : Option Addr) (cap : Nat) (l : List Ins) (hv : View w ao (flat l)) (hok : ∀ x ∈ l, x.ok) (e n : Int) (hA : chk l = (e, n)) :
    Calls Try.prog 11 #[.slice ao l.length cap] w fun e' w' => e' = .returned (.tuple #[.int .i64 e, .int .i64 n]) ∧ Fr nob w w' := by
  have := sCheck_any w ao cap l hv hok
  rw [hA] at this
  exact this

set_option maxRecDepth 100000 in
set_option maxHeartbeats 4000000 in
theorem ends_bad (w : World) (ao : Option Addr) (cap : Nat) (l : List Ins) (hv : View w ao (flat l)) (hok : ∀ x ∈ l, x.ok) (r : ByteArray) (h0 : (chk l).1 ≠ 0) :
    Calls Try.prog 3 #[.slice ao l.length cap, .string r] w fun e w' => e = .returned (.bool true) ∧ Fr nob w w' := by
  obtain ⟨p1, p2⟩ := chk_place l
  obtain ⟨ce, hce⟩ : ∃ ce, ce = (chk l).1 := ⟨_, rfl⟩
  obtain ⟨cn, hcn⟩ : ∃ cn, cn = (chk l).2 := ⟨_, rfl⟩
  have hA : runA l r = (0, 0, ce) := by unfold runA; rw [if_pos h0, hce]
  have hC : chk l = (ce, cn) := by rw [hce, hcn]
  rw [← hcn] at p1 p2
  rw [← hce] at h0
  have HV := hide hv
  have HOK := hide hok
  have HA := hide hA
  have HC := hide hC
  have hz : (ce == 0) = false := by simp [h0]
  clear hv hok hA hC hce hcn
  go_enter Try.func3, Try.ntmps3
  go_wp2_with fail
  refine (known_any w).mono ?_
  rintro e w1 ⟨rfl, f1⟩
  have F1 := hide f1
  clear f1
  go_wp2_with fail
  refine (check_is w1 ao cap l (HV.out.fr0 F1.out) HOK.out ce cn HC.out).mono ?_
  rintro e w2 ⟨rfl, f2⟩
  have F2 := hide (F1.out.trans f2)
  clear f2 F1
  go_wp2_with fail
  refine (run_is w2 ao cap l (HV.out.fr0 F2.out) HOK.out r 0 0 ce HA.out).mono ?_
  rintro e w3 ⟨rfl, f3⟩
  have F3 := hide (F2.out.trans f3)
  clear f3 F2
  by_cases h1 : cn < (l.length : Int)
  · clear p2 h0
    go_wp2
    go_ret
    exact ⟨rfl, F3.out⟩
  · have h2 : cn = 0 := p2.resolve_left h1
    subst h2
    have hl0 : (l.length : Int) = 0 := by omega
    clear p2 h0 h1
    go_wp2
    go_ret
    exact ⟨rfl, F3.out⟩
set_option maxRecDepth 100000 in
set_option maxHeartbeats 4000000 in
theorem ends_rec (w : World) (ao : Option Addr) (cap : Nat) (l : List Ins) (hv : View w ao (flat l)) (hok : ∀ x ∈ l, x.ok) (r : ByteArray) (h0 : (chk l).1 = 0) (h64 : r.size ≠ 64) :
    Calls Try.prog 3 #[.slice ao l.length cap, .string r] w fun e w' => e = .returned (.bool true) ∧ Fr nob w w' := by
  have hA : runA l r = (0, 0, 10) := by unfold runA; rw [if_neg (by simpa using h0), if_pos h64]
  have hC : chk l = (0, 0) := (fine_of hok h0).chk
  have HV := hide hv
  have HOK := hide hok
  have HA := hide hA
  have HC := hide hC
  have hi64 : ((r.size : Int) == 64) = false := by rw [beq_eq_false_iff_ne]; omega
  clear hv hok hA hC h0 h64
  go_enter Try.func3, Try.ntmps3
  go_wp2_with fail
  refine (known_any w).mono ?_
  rintro e w1 ⟨rfl, f1⟩
  have F1 := hide f1
  clear f1
  go_wp2_with fail
  refine (check_is w1 ao cap l (HV.out.fr0 F1.out) HOK.out 0 0 HC.out).mono ?_
  rintro e w2 ⟨rfl, f2⟩
  have F2 := hide (F1.out.trans f2)
  clear f2 F1
  go_wp2_with fail
  refine (run_is w2 ao cap l (HV.out.fr0 F2.out) HOK.out r 0 0 10 HA.out).mono ?_
  rintro e w3 ⟨rfl, f3⟩
  have F3 := hide (F2.out.trans f3)
  clear f3 F2
  go_wp2
  go_ret
  exact ⟨rfl, F3.out⟩
set_option maxRecDepth 100000 in
set_option maxHeartbeats 4000000 in
theorem ends_ok (w : World) (ao : Option Addr) (cap : Nat) (l : List Ins) (hv : View w ao (flat l)) (hok : ∀ x ∈ l, x.ok) (r : ByteArray) (h0 : (chk l).1 = 0) (h64 : r.size = 64) :
    Calls Try.prog 3 #[.slice ao l.length cap, .string r] w fun e w' => e = .returned (.bool true) ∧ Fr nob w w' := by
  have hF := fine_of hok h0
  have hA := runA_ok h0 h64
  have hC : chk l = (0, 0) := hF.chk
  obtain ⟨b1, b2⟩ := fin_bd hF.good r
  have hlen := hF.good.le
  have hpos := hF.good.pos
  obtain ⟨v, hv0⟩ : ∃ v, v = ver l r := ⟨_, rfl⟩
  obtain ⟨n, hn0⟩ : ∃ n, n = fin l r := ⟨_, rfl⟩
  rw [← hv0, ← hn0] at hA
  rw [← hn0] at b1 b2
  have hB : l.length < 4096 → runA (J :: l) r = (v, ((n + 1 : Nat) : Int), 0) := fun h => by
    have hF2 := fine_front hF h
    obtain ⟨e1, e2⟩ := run_front hF.good r
    rw [runA_ok (by rw [hF2.chk]) h64, e1, e2, hv0, hn0]
  have HV := hide hv
  have HOK := hide hok
  have HA := hide hA
  have HC := hide hC
  have HB := hide hB
  have hi64 : (r.size : Int) = 64 := by omega
  have q1 : (1 : Int) ≤ (n : Int) := by omega
  have q2 : (n : Int) ≤ (l.length : Int) := by omega
  clear hv hok hA hC h0 h64 hF hB hv0 hn0
  go_enter Try.func3, Try.ntmps3
  go_wp2_with fail
  refine (known_any w).mono ?_
  rintro e w1 ⟨rfl, f1⟩
  have F1 := hide f1
  clear f1
  go_wp2_with fail
  refine (check_is w1 ao cap l (HV.out.fr0 F1.out) HOK.out 0 0 HC.out).mono ?_
  rintro e w2 ⟨rfl, f2⟩
  have F2 := hide (F1.out.trans f2)
  clear f2 F1
  go_wp2_with fail
  refine (run_is w2 ao cap l (HV.out.fr0 F2.out) HOK.out r v n 0 HA.out).mono ?_
  rintro e w3 ⟨rfl, f3⟩
  have F3 := hide (F2.out.trans f3)
  clear f3 F2
  go_wp2_with fail
  refine (run_is w3 ao cap l (HV.out.fr0 F3.out) HOK.out r v n 0 HA.out).mono ?_
  rintro e w4 ⟨rfl, f4⟩
  have F4 := hide (F3.out.trans f4)
  clear f4 F3
  by_cases h4 : l.length = 4096
  · have h4i : (l.length : Int) = 4096 := by omega
    clear h4
    go_wp2
    go_ret
    exact ⟨rfl, F4.out⟩
  · have h4i : ((l.length : Int) == 4096) = false := by rw [beq_eq_false_iff_ne]; omega
    obtain ⟨i0, hi, hz0, hz1, hz2⟩ := info_parts info_insn
    have hne : flat l ≠ [] := by intro e; have := flat_len l; rw [e] at this; simp at this; omega
    obtain ⟨b, off, rfl, hseg⟩ := ((HV.out.fr0 F4.out).fr0 ((Fr.refl nob w4).alloc (.cells (flat [J]).toArray 32))).some hne
    have o4 : Own (w4.alloc (.cells (flat [J]).toArray 32)) 32 4 (some ⟨w4.heap.size, 0, none⟩) 1 1 (flat [J]) :=
      ⟨rfl, .inr ⟨w4.heap.size, 1, _, rfl, Nat.zero_le _, heap_alloc_new w4 _, Nat.le_refl _, by unfold maxLen; omega, rfl, rfl⟩⟩
    have HSG := hide hseg
    have O4 := hide o4
    have F5 := hide (F4.out.alloc (.cells (flat [J]).toArray 32))
    clear hseg o4 hne
    go_wp2_with (at_builtin; refine wpList_append_keep _ rfl _ _ 22 rfl 32 i0 _ 4 8 Try.underlying22 hi hz0 hz1 hz2 rfl (by decide) _ _ _ (flat [J]) rfl O4.out ⟨b, off, none⟩ l.length cap (flat l) rfl (flat_len l) ?c1 (flat_oneCell l) hpos ?c3 ?c4 (w4.heap.size + 1) (World.size_alloc _ _) ?_)
    case c1 =>
      intro j u hj
      rw [Addr.add_lit]
      exact HSG.out j u hj
    case c3 => unfold maxLen; omega
    case c4 => omega
    intro g2 c2 w5 o5 _ f5 hat
    have hsz := F4.out.size
    have F6 : Fr nob w w5 := F5.out.step f5 (fun j hj e => by simp only [bk, Value.ownBlock, Option.some.injEq] at e; omega)
    have hvj : View w5 (some ⟨g2, 0, none⟩) (flat (J :: l)) := own_view o5 (by rw [show flat (J :: l) = flat [J] ++ flat l from rfl, List.take_of_length_le (Nat.le_refl _)])
    have hokj : ∀ x ∈ J :: l, x.ok := by
      intro x hx
      rcases List.mem_cons.1 hx with rfl | hx
      · exact ⟨⟨by decide, by decide⟩, ⟨by decide, by decide⟩, ⟨by decide, by decide⟩, ⟨by decide, by decide⟩⟩
      · exact HOK.out x hx
    have hRJ := run_is w5 (some ⟨g2, 0, none⟩) c2 (J :: l) hvj hokj r v _ 0 (HB.out (by omega))
    rw [show (J :: l).length = 1 + l.length by simp; omega] at hRJ
    have HRJ := hide hRJ
    have FF6 := hide F6
    clear o5 f5 hat hsz F6 hvj hokj hRJ
    go_wp2_with fail
    refine HRJ.out.mono ?_
    rintro e w6 ⟨rfl, f6⟩
    have F7 := hide (FF6.out.trans f6)
    have hn1 : ((n + 1 : Nat) : Int) = (n : Int) + 1 := by omega
    clear f6
    rw [hn1]
    go_wp2
    go_ret
    exact ⟨rfl, F7.out⟩
/-- What is checked runs. -/
theorem ends_any (w : World) (ao : Option Addr) (cap : Nat) (l : List Ins) (hv : View w ao (flat l)) (hok : ∀ x ∈ l, x.ok) (r : ByteArray) :
    Calls Try.prog 3 #[.slice ao l.length cap, .string r] w fun e w' => e = .returned (.bool true) ∧ Fr nob w w' := by
  by_cases h0 : (chk l).1 = 0
  · by_cases h64 : r.size = 64
    · exact ends_ok w ao cap l hv hok r h0 h64
    · exact ends_rec w ao cap l hv hok r h0 h64
  · exact ends_bad w ao cap l hv hok r h0
#print axioms ends_any
end Go.Proofs.Ytjgcfffepkmojaa
