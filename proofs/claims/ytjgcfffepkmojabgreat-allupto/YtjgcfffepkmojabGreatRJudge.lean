import Derived.Test.YtjgcfffepkmojabGreatRRun
import Derived.Test.YtjgcfffepkmojabGreatRAsk
namespace Go.Proofs.YtjgcfffepkmojabGreat
open Go.RowKit
set_option linter.unusedVariables false

/-! ### Judging -/
def rnk (v : Int) : Int :=
  if v / 65536 = 0 then 1 else if v / 65536 = 3 then 2 else if v / 65536 = 5 then 3 else if v / 65536 = 32704 then 4 else if v / 65536 = 32752 then 5 else if v / 65536 = 32764 then 6 else if v / 65536 = 32767 then 7 else 0
set_option maxRecDepth 100000 in
theorem rank_any (w : World) (v : Int) :
    Calls Tryz.prog 39 #[.int .u32 v] w fun e w' => e = .returned (.int .i64 (rnk v)) ∧ w' = w := by
  go_enter Tryz.func39, Tryz.ntmps39
  go_wp2
  all_goals go_ret
  all_goals refine ⟨ret_i ?_, rfl⟩
  all_goals simp only [beq_iff_eq, beq_eq_false_iff_ne] at *
  all_goals (simp [rnk, *])
structure Prg where
  a : Option Addr
  cap : Nat
  l : List Ins
def Prg.v (p : Prg) : Value := .slice p.a p.l.length p.cap
def pcs : List Prg → List Value := cat (fun p => [p.v])
/-- A stack of the reference. -/
structure SV (w : World) (g : Nat) (ao : Option Addr) (cap : Nat) (ls : List Prg) : Prop where
  blk : w.heap[g]? = some (.cells #[.slice ao ls.length cap] 56 (0, 0))
  v : View w ao (pcs ls)
  p : ∀ x ∈ ls, View w x.a (flat x.l) ∧ Good x.l
theorem SV.fr0 {w w' : World} {g : Nat} {ao : Option Addr} {cap : Nat} {ls : List Prg} (h : SV w g ao cap ls) (f : Fr nob w w') : SV w' g ao cap ls :=
  ⟨f.heap h.blk (fun h => h), h.v.fr0 f, fun x hx => ⟨(h.p x hx).1.fr0 f, (h.p x hx).2⟩⟩
/-- One program more: the best verdict so far, and whose it is. -/
def jst (s : Int × Int) (n : Nat) (v : Int) : Int × Int := if s.2 < 0 ∨ rnk v ≤ rnk s.1 then (v, (n : Int)) else s
def jdgN (ls : List Prg) (r : ByteArray) : Nat → Int × Int
  | 0 => (2147418112, -1)
  | n + 1 => match ls[n]? with
    | some p => jst (jdgN ls r n) n (ver p.l r)
    | none => jdgN ls r n
theorem jdgN_succ {ls : List Prg} {r : ByteArray} {n : Nat} (h : n < ls.length) : jdgN ls r (n + 1) = jst (jdgN ls r n) n (ver ls[n].l r) := by
  show (match ls[n]? with | some p => jst (jdgN ls r n) n (ver p.l r) | none => jdgN ls r n) = _
  rw [List.getElem?_eq_getElem h]
/-- What Judge answers. -/
def jdgA (ls : List Prg) (r : ByteArray) : Int × Int × Int := if r.size = 64 then ((jdgN ls r ls.length).1, (jdgN ls r ls.length).2, 0) else (0, 0, 10)
theorem jdgN_bd (ls : List Prg) (r : ByteArray) (n : Nat) : -1 ≤ (jdgN ls r n).2 ∧ (jdgN ls r n).2 ≤ n := by
  induction n with
  | zero => exact ⟨(show (-1 : Int) ≤ -1 by decide), (show (-1 : Int) ≤ 0 by decide)⟩
  | succ n ih =>
    show -1 ≤ (match ls[n]? with | some p => jst (jdgN ls r n) n (ver p.l r) | none => jdgN ls r n).2 ∧ (match ls[n]? with | some p => jst (jdgN ls r n) n (ver p.l r) | none => jdgN ls r n).2 ≤ _
    cases ls[n]? with
    | none => exact ⟨ih.1, by show (jdgN ls r n).2 ≤ _; omega⟩
    | some p =>
      show -1 ≤ (jst (jdgN ls r n) n (ver p.l r)).2 ∧ (jst (jdgN ls r n) n (ver p.l r)).2 ≤ _
      unfold jst
      split
      · exact ⟨by show -1 ≤ (n : Int); omega, by show (n : Int) ≤ _; omega⟩
      · exact ⟨ih.1, by omega⟩

set_option maxRecDepth 100000 in
set_option maxHeartbeats 2000000 in
theorem rJudge_any (w : World) (g : Nat) (ao : Option Addr) (cap : Nat) (ls : List Prg) (h : SV w g ao cap ls) (hl : ls.length ≤ 10000000) (r : ByteArray) (hr : r.size ≤ 100000000) :
    Calls Tryz.prog 15 #[.pointer (some ⟨g, 0, none⟩), .string r] w fun e w' => e = .returned (.tuple #[.int .u32 (jdgA ls r).1, .int .i64 (jdgA ls r).2.1, .int .i64 (jdgA ls r).2.2]) ∧ Fr nob w w' := by
  have HV := hide h
  clear h
  by_cases h64 : r.size = 64
  · have hA : jdgA ls r = ((jdgN ls r ls.length).1, (jdgN ls r ls.length).2, 0) := by unfold jdgA; rw [if_pos h64]
    have HA := hide hA
    have hi64 : (r.size : Int) = 64 := by omega
    have H64 := hide h64
    clear hA h64
    go_enter Tryz.func15, Tryz.ntmps15
    go_wp2_with fail
    go_loopw [7, 8, 9] (fun b y z wr => ∃ n : Nat, n ≤ ls.length ∧ z = .int .i64 n ∧ b = .int .u32 (jdgN ls r n).1 ∧ y = .int .i64 (jdgN ls r n).2 ∧ Fr nob w wr) (fun _ _ z _ => ls.length - (intOf z).toNat)
    case atStart => exact ⟨0, Nat.zero_le _, rfl, rfl, rfl, Fr.refl _ w⟩
    case round =>
      obtain ⟨n, hn, rfl, rfl, rfl, f⟩ := hrel
      have hv := HV.out.fr0 f
      have c0 : wr.cell? ⟨g, 0, none⟩ = some (.slice ao ls.length cap) := cell_blk hv.blk rfl
      have FF := hide f
      by_cases hlt : n < ls.length
      · obtain ⟨b, off, rfl, hc⟩ := view_at (f := fun p : Prg => [p.v]) (n := 1) (fun _ => rfl) (by decide) hv.v hlt
        obtain ⟨p, hp⟩ : ∃ p, p = ls[n] := ⟨_, rfl⟩
        rw [← hp] at hc
        have c1 : wr.cell? ⟨b, off + n, none⟩ = some (.slice p.a p.l.length p.cap) := by
          have := hc 0 p.v (by decide) rfl
          rw [Nat.mul_one, Nat.add_zero] at this
          exact this
        have hmem : p ∈ ls := by rw [hp]; exact List.getElem_mem hlt
        obtain ⟨hvp, hgp⟩ := hv.p p hmem
        have HP : Hid (Calls Tryz.prog 34 #[.slice p.a p.l.length p.cap, .string r] wr fun e w' => e = .returned (.tuple #[.int .u32 (ver p.l r), .int .i64 (fin p.l r : Int)]) ∧ Fr nob wr w') := play_any wr _ _ _ hvp hgp r H64.out
        have hnx : jdgN ls r (n + 1) = jst (jdgN ls r n) n (ver p.l r) := by rw [jdgN_succ hlt, ← hp]
        have hbd := jdgN_bd ls r n
        obtain ⟨s1, hs1⟩ : ∃ s, s = (jdgN ls r n).1 := ⟨_, rfl⟩
        obtain ⟨s2, hs2⟩ : ∃ s, s = (jdgN ls r n).2 := ⟨_, rfl⟩
        obtain ⟨pv, hpv⟩ : ∃ v, v = ver p.l r := ⟨_, rfl⟩
        have hbs : jdgN ls r n = (s1, s2) := by rw [hs1, hs2]
        rw [hbs, ← hpv] at hnx
        rw [← hs2] at hbd
        rw [← hs1, ← hs2]
        rw [← hpv] at HP
        obtain ⟨b1, b2⟩ := hbd
        have HN := hide hnx
        clear hc hp hmem hvp hgp hnx hv hbs hpv f hs1 hs2
        go_wp2_with fail
        refine HP.out.mono ?_
        rintro e w2 ⟨rfl, f2⟩
        have F2 := hide (FF.out.trans f2)
        clear f2 c0 c1
        go_wp2_with fail
        refine (rank_any _ _).mono ?_
        rintro e w3 ⟨rfl, rfl⟩
        go_wp2_with fail
        refine (rank_any _ _).mono ?_
        rintro e w4 ⟨rfl, rfl⟩
        unfold jst at HN
        by_cases q : s2 < 0
        · have e1 : decide (s2 < 0) = true := by simpa using q
          have hN : jdgN ls r (n + 1) = (pv, (n : Int)) := by rw [HN.out, if_pos (.inl q)]
          have HN2 := hide hN
          clear hN HN q
          generalize rnk pv = r1
          generalize rnk s1 = r2
          go_wp2_with fail
          go_roundw
          case rel => exact ⟨n + 1, by omega, by go_num, by rw [HN2.out], by rw [HN2.out], F2.out⟩
          case measure => simp [intOf]; omega
        · have e1 : decide (s2 < 0) = false := by simpa using q
          by_cases q2 : rnk pv ≤ rnk s1
          · have hN : jdgN ls r (n + 1) = (pv, (n : Int)) := by rw [HN.out, if_pos (.inr q2)]
            have HN2 := hide hN
            have e2 : decide (rnk pv ≤ rnk s1) = true := by simpa using q2
            clear hN HN q
            generalize rnk pv = r1 at q2 e2 ⊢
            generalize rnk s1 = r2 at q2 e2 ⊢
            go_wp2_with fail
            go_roundw
            case rel => exact ⟨n + 1, by omega, by go_num, by rw [HN2.out], by rw [HN2.out], F2.out⟩
            case measure => simp [intOf]; omega
          · have hN : jdgN ls r (n + 1) = (s1, s2) := by rw [HN.out, if_neg (by rintro (h | h); exact q h; exact q2 h)]
            have HN2 := hide hN
            have e2 : decide (rnk pv ≤ rnk s1) = false := by simpa using q2
            clear hN HN q q2
            generalize rnk pv = r1 at e2 ⊢
            generalize rnk s1 = r2 at e2 ⊢
            go_wp2_with fail
            go_roundw
            case rel => exact ⟨n + 1, by omega, by go_num, by rw [HN2.out], by rw [HN2.out], F2.out⟩
            case measure => simp [intOf]; omega
      · have hln : n = ls.length := by omega
        subst hln
        clear f
        go_wp2_with fail
        go_ret3
        exact ⟨ret_vne HA.out, FF.out⟩
  · have hA : jdgA ls r = (0, 0, 10) := by unfold jdgA; rw [if_neg h64]
    have HA := hide hA
    have hi64 : ((r.size : Int) == 64) = false := by rw [beq_eq_false_iff_ne]; omega
    clear hA h64
    go_enter Tryz.func15, Tryz.ntmps15
    go_wp2_with fail
    go_ret3
    exact ⟨ret_vne HA.out, Fr.refl _ w⟩
#print axioms rJudge_any
end Go.Proofs.YtjgcfffepkmojabGreat
