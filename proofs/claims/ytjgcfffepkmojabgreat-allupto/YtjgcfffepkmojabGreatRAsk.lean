import Derived.Test.YtjgcfffepkmojabGreatPolV
import Derived.Test.YtjgcfffepkmojabGreatGood
import Derived.Deep.QuietTactic
import Derived.BigQuiet
import Derived.Deep.RegionHeld3
import Derived.Deep.DeepCutAuto
namespace Go.Proofs.YtjgcfffepkmojabGreat
open Go.RowKit
set_option linter.unusedVariables false

/-! ### Policies -/
/-- The argument that a test asks of. -/
def arg64 (r : ByteArray) (n : Nat) : Int := wd r (16 + 8 * n) + wd r (16 + 8 * n + 4) * 4294967296
/-- Does a test hold? -/
def hldA (t : Tst) (a : Int) : Bool :=
  if t.how = 0 then a == t.value else if t.how = 1 then !(a == t.value) else if t.how = 2 then decide (a < t.value) else if t.how = 3 then decide (a ≤ t.value) else if t.how = 4 then decide (t.value < a)
  else if t.how = 5 then decide (t.value ≤ a) else bits .and .u64 a t.mask == t.value
def Tst.may (t : Tst) : Prop := (0 ≤ t.arg ∧ t.arg ≤ 5) ∧ (0 ≤ t.how ∧ t.how ≤ 6)
set_option maxRecDepth 100000 in
set_option maxHeartbeats 2000000 in
theorem holds_any (w : World) (t : Tst) (ht : t.may) (r : ByteArray) (hr : r.size = 64) :
    Calls Tryz.prog 53 #[.agg #[.int .i64 t.arg, .int .i64 t.how, .int .u64 t.value, .int .u64 t.mask], .string r] w fun e w' => e = .returned (.bool (hldA t (arg64 r t.arg.toNat))) ∧ Fr nob w w' := by
  obtain ⟨⟨a0, a1⟩, h0, h1⟩ := ht
  obtain ⟨n, hn⟩ := Int.eq_ofNat_of_zero_le a0
  have hn5 : n ≤ 5 := by omega
  have hnt : t.arg.toNat = n := by omega
  rw [hnt, hn]
  clear hnt a0 a1
  have hw1 := wd_bd r (16 + 8 * n)
  have hw2 := wd_bd r (16 + 8 * n + 4)
  obtain ⟨A, hA⟩ : ∃ A, A = arg64 r n := ⟨_, rfl⟩
  rw [← hA]
  unfold arg64 at hA
  have HW : Hid (∀ w, Calls Tryz.prog 42 #[.string r, .int .i64 (16 + 8 * (n : Int))] w fun e w' => e = .returned (.int .u32 (wd r (16 + 8 * n))) ∧ ∃ k, w' = w.drewN k) := fun w => word_at w r (16 + 8 * n) _ (by omega) (by omega) (by omega)
  have HW2 : Hid (∀ w, Calls Tryz.prog 42 #[.string r, .int .i64 (16 + 8 * (n : Int) + 4)] w fun e w' => e = .returned (.int .u32 (wd r (16 + 8 * n + 4))) ∧ ∃ k, w' = w.drewN k) := fun w => word_at w r (16 + 8 * n + 4) _ (by omega) (by omega) (by omega)
  generalize wd r (16 + 8 * n) = x at *
  generalize wd r (16 + 8 * n + 4) = y at *
  have hw3 : IntKind.u64.wrap (x + y * 4294967296) = A := by rw [hA]; simp [IntKind.wrap, IntKind.bits, IntKind.signed]; omega
  have hw4 : (x + y * 4294967296) % 18446744073709551616 = A := by rw [hA]; omega
  have HA := hide hA
  clear hA
  have hc : t.how = 0 ∨ t.how = 1 ∨ t.how = 2 ∨ t.how = 3 ∨ t.how = 4 ∨ t.how = 5 ∨ t.how = 6 := by omega
  have HR : Hid (∀ h, t.how = h → hldA t A = (if h = 0 then A == t.value else if h = 1 then !(A == t.value) else if h = 2 then decide (A < t.value) else if h = 3 then decide (A ≤ t.value) else if h = 4 then decide (t.value < A)
  else if h = 5 then decide (t.value ≤ A) else bits .and .u64 A t.mask == t.value)) := fun h e => by rw [← e]; rfl
  rcases hc with hc | hc | hc | hc | hc | hc | hc
  all_goals
    rw [HR.out _ hc]
    clear HR
    rw [hc]
    clear hc h0 h1
    go_enter Tryz.func53, Tryz.ntmps53
    go_wp2_with fail
    refine (HW.out _).mono ?_
    rintro e w1 ⟨rfl, k1, rfl⟩
    go_wp2_with fail
    refine (HW2.out _).mono ?_
    rintro e w2 ⟨rfl, k2, rfl⟩
    go_wp2_with fail
    go_ret
    exact ⟨by first | rfl | simp, ((Fr.refl _ w).alloc _).drewN _⟩

/-! ### May a policy be? -/
def Tst.mayB (t : Tst) : Bool := decide (0 ≤ t.arg) && decide (t.arg ≤ 5) && decide (0 ≤ t.how) && decide (t.how ≤ 6)
theorem Tst.mayB_iff (t : Tst) : t.mayB = true ↔ t.may := by
  unfold Tst.mayB Tst.may
  simp only [Bool.and_eq_true, decide_eq_true_eq]
  omega
def Rul.mayB (x : Rul) : Bool := decide (x.ts.length ≤ 6) && x.ts.all Tst.mayB
def mayS (rs : List Rul) : Bool := decide (rs.length ≤ 40) && rs.all Rul.mayB
theorem all_false {α : Type} {p : α → Bool} {l : List α} {k : Nat} (hk : k < l.length) (h : p l[k] = false) : l.all p = false := by
  rw [List.all_eq_false]
  exact ⟨l[k], List.getElem_mem hk, by simp [h]⟩
theorem all_true {α : Type} {p : α → Bool} {l : List α} (h : ∀ k (hk : k < l.length), p l[k] = true) : l.all p = true := by
  rw [List.all_eq_true]
  intro x hx
  obtain ⟨k, hk, rfl⟩ := List.getElem_of_mem hx
  exact h k hk
set_option maxRecDepth 100000 in
set_option maxHeartbeats 2000000 in
theorem maybe_any (w : World) (arch els oth : Int) (ao : Option Addr) (cap : Nat) (rs : List Rul) (hv : RV w ao rs) (hl : rs.length ≤ 10000000) (ht : ∀ x ∈ rs, x.ts.length ≤ 10000000) :
    Calls Tryz.prog 33 #[.agg #[.int .u32 arch, .slice ao rs.length cap, .int .u32 els, .int .u32 oth]] w fun e w' => e = .returned (.bool (mayS rs)) ∧ Fr nob w w' := by
  have HV := hide hv
  have HT := hide ht
  clear hv ht
  have hfr : Fr nob w (w.alloc (.cells #[.int .u32 arch, .slice ao rs.length cap, .int .u32 els, .int .u32 oth] 38)) := (Fr.refl _ w).alloc _
  have hk0 : (w.alloc (.cells #[.int .u32 arch, .slice ao rs.length cap, .int .u32 els, .int .u32 oth] 38)).heap[w.heap.size]? = some (.cells #[.int .u32 arch, .slice ao rs.length cap, .int .u32 els, .int .u32 oth] 38 (0, 0)) := heap_alloc_new w _
  have HF := hide hfr
  have HK := hide hk0
  clear hfr hk0
  by_cases h40 : 40 < rs.length
  · have hm : mayS rs = false := by unfold mayS; rw [decide_eq_false (by omega)]; rfl
    have hd : decide ((40 : Int) < (rs.length : Int)) = true := by simp; omega
    rw [hm]
    go_enter Tryz.func33, Tryz.ntmps33
    go_wp2
    go_ret
    exact ⟨rfl, HF.out⟩
  have hd : decide ((40 : Int) < (rs.length : Int)) = false := by simp; omega
  go_enter Tryz.func33, Tryz.ntmps33
  go_wp2_with fail
  go_loopw [3] (fun y wr => ∃ i : Nat, i ≤ rs.length ∧ y = .int .i64 i ∧ (∀ j (hj : j < rs.length), j < i → Rul.mayB rs[j] = true) ∧ Fr nob w wr ∧ wr.heap[w.heap.size]? = some (.cells #[.int .u32 arch, .slice ao rs.length cap, .int .u32 els, .int .u32 oth] 38 (0, 0))) (fun y _ => rs.length - (intOf y).toNat)
  case atStart => exact ⟨0, Nat.zero_le _, rfl, fun j _ hj => absurd hj (Nat.not_lt_zero _), HF.out, HK.out⟩
  case round =>
    clear HF HK
    obtain ⟨i, hi, rfl, hb, f, hk⟩ := hrel
    have c1 : wr.cell? ⟨w.heap.size, 1, none⟩ = some (.slice ao rs.length cap) := cell_blk hk rfl
    have HB := hide hb
    have FF := hide f
    have HK := hide hk
    clear hb hk
    by_cases hlt : i < rs.length
    · obtain ⟨b, off, rfl, hc⟩ := view_at (f := Rul.cs) (n := 3) (fun _ => rfl) (by decide) ((HV.out.fr0 f).v) hlt
      obtain ⟨x, hx⟩ : ∃ x, x = rs[i] := ⟨_, rfl⟩
      rw [← hx] at hc
      have c2 : wr.cell? ⟨b, off + i * 3 + 1, none⟩ = some (.slice x.ta x.ts.length x.cap) := hc 1 _ (by decide) rfl
      have hmem : x ∈ rs := by rw [hx]; exact List.getElem_mem hlt
      have hxl := HT.out x hmem
      have hvt := (HV.out.fr0 f).t x hmem
      have HX := hide hx
      have HVT := hide hvt
      clear hc hx hvt f
      by_cases h6 : 6 < x.ts.length
      · have hm : mayS rs = false := by
          have : Rul.mayB rs[i] = false := by rw [← HX.out]; unfold Rul.mayB; rw [decide_eq_false (by omega)]; rfl
          unfold mayS; rw [all_false hlt this, Bool.and_false]
        have hd6 : decide ((6 : Int) < (x.ts.length : Int)) = true := by simp; omega
        have HM := hide hm
        clear hm
        go_wp2_with fail
        go_ret
        exact ⟨by rw [HM.out]; rfl, FF.out⟩
      · have hd6 : decide ((6 : Int) < (x.ts.length : Int)) = false := by simp; omega
        go_wp2_with fail
        go_loopw [5] (fun y wx => ∃ k : Nat, k ≤ x.ts.length ∧ y = .int .i64 k ∧ (∀ j (hj : j < x.ts.length), j < k → Tst.mayB x.ts[j] = true) ∧ wx = wr) (fun y _ => x.ts.length - (intOf y).toNat)
        case atStart => exact ⟨0, Nat.zero_le _, rfl, fun j _ hj => absurd hj (Nat.not_lt_zero _), rfl⟩
        case round =>
          obtain ⟨k, hk, rfl, hbk, rfl⟩ := hrel
          have HBK := hide hbk
          clear hbk
          by_cases hkl : k < x.ts.length
          · obtain ⟨tb, toff, hta, hc⟩ := view_at (f := Tst.cs) (n := 4) (fun _ => rfl) (by decide) HVT.out hkl
            obtain ⟨t, htt⟩ : ∃ t, t = x.ts[k] := ⟨_, rfl⟩
            rw [← htt] at hc
            have d0 : wr.cell? ⟨tb, toff + k * 4, none⟩ = some (.int .i64 t.arg) := hc 0 _ (by decide) rfl
            have d1 : wr.cell? ⟨tb, toff + k * 4 + 1, none⟩ = some (.int .i64 t.how) := hc 1 _ (by decide) rfl
            have HTT := hide htt
            clear hc htt
            rw [hta] at *
            have q0 : (0 : Int) ≤ (k : Int) := by omega
            have q1 : (k : Int) < (x.ts.length : Int) := by omega
            cases hm : t.mayB with
            | true =>
              obtain ⟨⟨m1, m2⟩, m3, m4⟩ := (Tst.mayB_iff t).1 hm
              have e1 : decide (t.arg < 0) = false := by simp; omega
              have e2 : decide (5 < t.arg) = false := by simp; omega
              have e3 : decide (t.how < 0) = false := by simp; omega
              have e4 : decide (6 < t.how) = false := by simp; omega
              have HMM := hide hm
              clear hm
              go_wp2_with fail
              go_roundw
              case rel => exact ⟨k + 1, by omega, by go_num, fun j hj hjk => by
                rcases Nat.lt_or_ge j k with h1 | h1
                · exact HBK.out j hj h1
                · have e : j = k := by omega
                  subst e
                  rw [← HTT.out]; exact HMM.out, by first | rfl | trivial⟩
              case measure => simp [intOf]; omega
            | false =>
              have hm2 : mayS rs = false := by
                have h1 : Rul.mayB rs[i] = false := by
                  rw [← HX.out]
                  unfold Rul.mayB
                  rw [all_false hkl (by rw [← HTT.out]; exact hm), Bool.and_false]
                unfold mayS; rw [all_false hlt h1, Bool.and_false]
              have HM := hide hm2
              have hno : ¬ t.may := fun h => by rw [(Tst.mayB_iff t).2 h] at hm; cases hm
              have HNO := hide hno
              clear hm hm2 hno
              by_cases a1 : t.arg < 0
              · have e1 : decide (t.arg < 0) = true := by simpa using a1
                clear a1
                go_wp2_with fail
                go_ret
                exact ⟨by rw [HM.out]; rfl, FF.out⟩
              · have e1 : decide (t.arg < 0) = false := by simpa using a1
                by_cases a2 : 5 < t.arg
                · have e2 : decide (5 < t.arg) = true := by simpa using a2
                  clear a1 a2
                  go_wp2_with fail
                  go_ret
                  exact ⟨by rw [HM.out]; rfl, FF.out⟩
                · have e2 : decide (5 < t.arg) = false := by simpa using a2
                  by_cases a3 : t.how < 0
                  · have e3 : decide (t.how < 0) = true := by simpa using a3
                    clear a1 a2 a3
                    go_wp2_with fail
                    go_ret
                    exact ⟨by rw [HM.out]; rfl, FF.out⟩
                  · have e3 : decide (t.how < 0) = false := by simpa using a3
                    have a4 : 6 < t.how := by
                      rcases Int.lt_or_le 6 t.how with h | h
                      · exact h
                      · exact absurd ⟨⟨by omega, by omega⟩, by omega, h⟩ HNO.out
                    have e4 : decide (6 < t.how) = true := by simpa using a4
                    clear a1 a2 a3 a4
                    go_wp2_with fail
                    go_ret
                    exact ⟨by rw [HM.out]; rfl, FF.out⟩
          · have hx2 : x.mayB = true := by
              unfold Rul.mayB
              rw [decide_eq_true (by omega), all_true (fun j hj => HBK.out j hj (by omega))]; rfl
            have HX2 := hide hx2
            have hk2 : ¬ (k : Int) < (x.ts.length : Int) := by omega
            clear hx2
            go_wp2_with fail
            go_roundw
            case rel => exact ⟨i + 1, by omega, by go_num, fun j hj hji => by
              rcases Nat.lt_or_ge j i with h1 | h1
              · exact HB.out j hj h1
              · have e : j = i := by omega
                subst e
                rw [← HX.out]; exact HX2.out, FF.out, HK.out⟩
            case measure => simp [intOf]; omega
    · have hm : mayS rs = true := by
        unfold mayS
        rw [decide_eq_true (by omega), all_true (fun j hj => HB.out j hj (by omega))]; rfl
      have HM := hide hm
      clear hm f
      go_wp2_with fail
      go_ret
      exact ⟨by rw [HM.out]; rfl, FF.out⟩
#print axioms maybe_any
end Go.Proofs.YtjgcfffepkmojabGreat

namespace Go.Proofs.YtjgcfffepkmojabGreat
open Go.RowKit
set_option linter.unusedVariables false

/-! ### What a policy says -/
abbrev hldR (r : ByteArray) (t : Tst) : Bool := hldA t (arg64 r t.arg.toNat)
def fitS (r : ByteArray) (x : Rul) : Bool := (wd r 0 == x.number) && x.ts.all (hldR r)
def askS (arch els oth : Int) (rs : List Rul) (r : ByteArray) : Int := if wd r 4 = arch then (match rs.find? (fitS r) with | some x => x.verdict | none => els) else oth
theorem find_at {α : Type} {p : α → Bool} {l : List α} {i : Nat} (hi : i < l.length) (hp : p l[i] = true) (hb : ∀ j (hj : j < l.length), j < i → p l[j] = false) : l.find? p = some l[i] := by
  rw [List.find?_eq_some_iff_getElem]
  exact ⟨hp, i, hi, rfl, fun j hj => by simp [hb j (by omega) hj]⟩
theorem find_no {α : Type} {p : α → Bool} {l : List α} (hb : ∀ j (hj : j < l.length), p l[j] = false) : l.find? p = none := by
  rw [List.find?_eq_none]
  intro x hx
  obtain ⟨j, hj, rfl⟩ := List.getElem_of_mem hx
  simp [hb j hj]
theorem take_all {α : Type} {p : α → Bool} {l : List α} {k : Nat} (hk : k < l.length) : (l.take (k + 1)).all p = ((l.take k).all p && p l[k]) := by
  rw [List.take_succ_eq_append_getElem hk, List.all_append]; simp

set_option maxRecDepth 100000 in
set_option maxHeartbeats 4000000 in
theorem asked_any (w : World) (arch els oth : Int) (ao : Option Addr) (cap : Nat) (rs : List Rul) (hv : RV w ao rs) (hl : rs.length ≤ 10000000) (ht : ∀ x ∈ rs, x.ts.length ≤ 10000000) (hmay : ∀ x ∈ rs, ∀ t ∈ x.ts, t.may) (r : ByteArray) (hr : r.size = 64) :
    Calls Tryz.prog 35 #[.agg #[.int .u32 arch, .slice ao rs.length cap, .int .u32 els, .int .u32 oth], .string r] w fun e w' => e = .returned (.int .u32 (askS arch els oth rs r)) ∧ Fr nob w w' := by
  have HV := hide hv
  have HT := hide ht
  have HMAY := hide hmay
  clear hv ht hmay
  have HW : Hid (∀ w (k : Nat), k + 4 ≤ 64 → Calls Tryz.prog 42 #[.string r, .int .i64 (k : Int)] w fun e w' => e = .returned (.int .u32 (wd r k)) ∧ ∃ n, w' = w.drewN n) := fun w k hk => word_at w r k _ rfl (by omega) (by omega)
  obtain ⟨w1, hw1⟩ : ∃ w1, w1 = w.alloc (.cells #[.int .u32 arch, .slice ao rs.length cap, .int .u32 els, .int .u32 oth] 38) := ⟨_, rfl⟩
  have F1 : Hid (Fr nob w w1) := by rw [hw1]; exact (Fr.refl _ w).alloc _
  have K1 : Hid (w1.heap[w.heap.size]? = some (.cells #[.int .u32 arch, .slice ao rs.length cap, .int .u32 els, .int .u32 oth] 38 (0, 0))) := by rw [hw1]; exact heap_alloc_new w _
  have HS : Hid (wd r 4 = arch → askS arch els oth rs r = (match rs.find? (fitS r) with | some x => x.verdict | none => els)) := fun h => by unfold askS; rw [if_pos h]
  have HO : Hid (¬ wd r 4 = arch → askS arch els oth rs r = oth) := fun h => by unfold askS; rw [if_neg h]
  go_enter Tryz.func35, Tryz.ntmps35
  go_upto_region 1 with fail
  rw [← hw1]
  have c0 : w1.cell? ⟨w.heap.size, 0, none⟩ = some (.int .u32 arch) := cell_blk K1.out rfl
  clear hw1
  go_cut [14] (fun y wx => y = .bool (!(wd r 4 == arch)) ∧ Fr nob w wx ∧ wx.heap[w.heap.size]? = some (.cells #[.int .u32 arch, .slice ao rs.length cap, .int .u32 els, .int .u32 oth] 38 (0, 0)))
  case first =>
    go_region_held3 (fun w' => w'.cell? ⟨w.heap.size, 0, none⟩ = some (.int .u32 arch)) (first | exact c0 | exact (c0 : _))
      ((go_at_call 42; refine (HW.out _ 4 (by decide)).mono ?_; rintro e w2 ⟨rfl, n2, rfl⟩))
    all_goals (
      go_wp2_with fail
      go_meet
      exact ⟨by first | rfl | simp, F1.out.drewN _, K1.out⟩)
  case rest =>
    obtain ⟨rfl, f2, k2⟩ := hcut
    rename World => w2
    have F2 := hide f2
    have K2 := hide k2
    have d3 : w2.cell? ⟨w.heap.size, 3, none⟩ = some (.int .u32 oth) := cell_blk k2 rfl
    clear f2 k2 c0 F1 K1
    by_cases ha : wd r 4 = arch
    · have hb : (wd r 4 == arch) = true := by simpa using ha
      have hA := HS.out ha
      rw [hb, Bool.not_true]
      clear hb HS HO d3
      have HA := hide hA
      clear hA ha
      go_wp2_with fail
      go_loopw [5] (fun y wr => ∃ i : Nat, i ≤ rs.length ∧ y = .int .i64 i ∧ (∀ j (hj : j < rs.length), j < i → fitS r rs[j] = false) ∧ Fr nob w wr ∧ wr.heap[w.heap.size]? = some (.cells #[.int .u32 arch, .slice ao rs.length cap, .int .u32 els, .int .u32 oth] 38 (0, 0))) (fun y _ => rs.length - (intOf y).toNat)
      case atStart => exact ⟨0, Nat.zero_le _, rfl, fun j _ hj => absurd hj (Nat.not_lt_zero _), F2.out, K2.out⟩
      case round =>
        clear F2 K2
        obtain ⟨i, hi, rfl, hb, f, hk⟩ := hrel
        rename World => wL
        have p1 : wL.cell? ⟨w.heap.size, 1, none⟩ = some (.slice ao rs.length cap) := cell_blk hk rfl
        have p2 : wL.cell? ⟨w.heap.size, 2, none⟩ = some (.int .u32 els) := cell_blk hk rfl
        have hwl : w.heap.size < wL.heap.size := World.block_lt_of_cell? wL _ p1
        have HB := hide hb
        have FF := hide f
        have HK := hide hk
        clear hb hk
        by_cases hlt : i < rs.length
        · obtain ⟨b, off, rfl, hc⟩ := view_at (f := Rul.cs) (n := 3) (fun _ => rfl) (by decide) ((HV.out.fr0 f).v) hlt
          obtain ⟨x, hx⟩ : ∃ x, x = rs[i] := ⟨_, rfl⟩
          rw [← hx] at hc
          have g0 : wL.cell? ⟨b, off + i * 3, none⟩ = some (.int .u32 x.number) := hc 0 _ (by decide) rfl
          have g1 : wL.cell? ⟨b, off + i * 3 + 1, none⟩ = some (.slice x.ta x.ts.length x.cap) := hc 1 _ (by decide) rfl
          have g2 : wL.cell? ⟨b, off + i * 3 + 2, none⟩ = some (.int .u32 x.verdict) := hc 2 _ (by decide) rfl
          have hmem : x ∈ rs := by rw [hx]; exact List.getElem_mem hlt
          have hxl := HT.out x hmem
          have HMX := hide (HMAY.out x hmem)
          have HVX := hide (HV.out.t x hmem)
          have HX := hide hx
          have hbl : b < wL.heap.size := World.block_lt_of_cell? wL _ g0
          clear hc hx f hmem
          go_upto_region 7 with fail
          go_cut [7] (fun y wx => y = .bool (wd r 0 == x.number) ∧ Fr nob wL wx ∧ wx.heap[wL.heap.size]? = some (.cells #[.int .u32 x.number, .slice x.ta x.ts.length x.cap, .int .u32 x.verdict] 35 (0, 0)))
          case first =>
            obtain ⟨w3, hw3⟩ : ∃ w3, w3 = wL.alloc (.cells #[.int .u32 x.number, .slice x.ta x.ts.length x.cap, .int .u32 x.verdict] 35) := ⟨_, rfl⟩
            rw [← hw3]
            have F3 : Hid (Fr nob wL w3) := by rw [hw3]; exact (Fr.refl _ wL).alloc _
            have K3 : Hid (w3.heap[wL.heap.size]? = some (.cells #[.int .u32 x.number, .slice x.ta x.ts.length x.cap, .int .u32 x.verdict] 35 (0, 0))) := by rw [hw3]; exact heap_alloc_new wL _
            have q0 : w3.cell? ⟨wL.heap.size, 0, none⟩ = some (.int .u32 x.number) := cell_blk K3.out rfl
            clear hw3 g0 g1 g2 p1 p2
            go_region_held3 (fun w' => w'.cell? ⟨wL.heap.size, 0, none⟩ = some (.int .u32 x.number)) (first | exact q0 | exact (q0 : _))
              ((go_at_call 42; refine (HW.out _ 0 (by decide)).mono ?_; rintro e w4 ⟨rfl, n4, rfl⟩))
            all_goals (
              go_wp2_with fail
              go_meet
              exact ⟨by first | rfl | simp, F3.out.drewN _, K3.out⟩)
          case rest =>
            obtain ⟨rfl, f4, k4⟩ := hcut
            rename World => w4
            have F4 := hide f4
            have K4 := hide k4
            have K5 := hide (f4.heap HK.out (fun h => h))
            clear f4 k4 g0 g1 g2 p1 p2 HK
            go_wp2_with fail
            go_loopw [7, 8] (fun z y wx => ∃ k : Nat, k ≤ x.ts.length ∧ y = .int .i64 k ∧ z = .bool ((wd r 0 == x.number) && (x.ts.take k).all (hldR r)) ∧ Fr nob w wx ∧ wx.heap[w.heap.size]? = some (.cells #[.int .u32 arch, .slice (some ⟨b, off, none⟩) rs.length cap, .int .u32 els, .int .u32 oth] 38 (0, 0)) ∧ wx.heap[wL.heap.size]? = some (.cells #[.int .u32 x.number, .slice x.ta x.ts.length x.cap, .int .u32 x.verdict] 35 (0, 0))) (fun _ y _ => x.ts.length - (intOf y).toNat)
            case atStart => exact ⟨0, Nat.zero_le _, rfl, by simp, FF.out.trans F4.out, K5.out, K4.out⟩
            case round =>
              clear F4 K4 K5
              obtain ⟨k, hk, rfl, rfl, f, hk5, hk4⟩ := hrel
              rename World => wM
              have m1 : wM.cell? ⟨wL.heap.size, 1, none⟩ = some (.slice x.ta x.ts.length x.cap) := cell_blk hk4 rfl
              have m2 : wM.cell? ⟨wL.heap.size, 2, none⟩ = some (.int .u32 x.verdict) := cell_blk hk4 rfl
              have F5 := hide f
              have K5 := hide hk5
              have K4 := hide hk4
              clear hk5 hk4
              by_cases hkl : k < x.ts.length
              · obtain ⟨tb, toff, hta, hc⟩ := view_at (f := Tst.cs) (n := 4) (fun _ => rfl) (by decide) (HVX.out.fr0 f) hkl
                obtain ⟨t, htt⟩ : ∃ t, t = x.ts[k] := ⟨_, rfl⟩
                rw [← htt] at hc
                have t0 : wM.cell? ⟨tb, toff + k * 4, none⟩ = some (.int .i64 t.arg) := hc 0 _ (by decide) rfl
                have t1 : wM.cell? ⟨tb, toff + k * 4 + 1, none⟩ = some (.int .i64 t.how) := hc 1 _ (by decide) rfl
                have t2 : wM.cell? ⟨tb, toff + k * 4 + 2, none⟩ = some (.int .u64 t.value) := hc 2 _ (by decide) rfl
                have t3 : wM.cell? ⟨tb, toff + k * 4 + 3, none⟩ = some (.int .u64 t.mask) := hc 3 _ (by decide) rfl
                have hmt : t.may := HMX.out t (by rw [htt]; exact List.getElem_mem hkl)
                have HH : Hid (∀ w, Calls Tryz.prog 53 #[.agg #[.int .i64 t.arg, .int .i64 t.how, .int .u64 t.value, .int .u64 t.mask], .string r] w fun e w' => e = .returned (.bool (hldR r t)) ∧ Fr nob w w') := fun w => holds_any w t hmt r hr
                have hnext : ((wd r 0 == x.number) && (x.ts.take (k + 1)).all (hldR r)) = (((wd r 0 == x.number) && (x.ts.take k).all (hldR r)) && hldR r t) := by rw [take_all hkl, ← htt, Bool.and_assoc]
                have HN := hide hnext
                have q0 : (0 : Int) ≤ (k : Int) := by omega
                have q1 : (k : Int) < (x.ts.length : Int) := by omega
                clear hc htt hmt hnext f
                rw [hta] at m1
                generalize hcur : ((wd r 0 == x.number) && (x.ts.take k).all (hldR r)) = cur
                rw [hcur] at HN
                clear hcur
                go_wp2_with fail
                refine (HH.out _).mono ?_
                rintro e w6 ⟨rfl, f6⟩
                have F6 := hide (F5.out.trans f6)
                have K7 := hide (f6.heap K5.out (fun h => h))
                have K8 := hide (f6.heap K4.out (fun h => h))
                generalize hhl : hldR r t = hv
                rw [hhl] at HN
                clear f6 hhl m1 m2 t0 t1 t2 t3
                cases cur with
                | true =>
                  go_wp2_with fail
                  go_roundw
                  case rel => exact ⟨k + 1, by omega, by go_num, by rw [HN.out]; rfl, F6.out, K7.out, K8.out⟩
                  case measure => simp [intOf]; omega
                | false =>
                  go_wp2_with fail
                  go_roundw
                  case rel => exact ⟨k + 1, by omega, by go_num, by rw [HN.out]; rfl, F6.out, K7.out, K8.out⟩
                  case measure => simp [intOf]; omega
              · have hfit : ((wd r 0 == x.number) && (x.ts.take k).all (hldR r)) = fitS r x := by
                  rw [List.take_of_length_le (by omega)]; rfl
                have hk2 : x.ts.length ≤ k := by omega
                rw [hfit]
                clear hfit f
                cases hf : fitS r x with
                | true =>
                  have hA : askS arch els oth rs r = x.verdict := by
                    rw [HA.out, find_at hlt (by rw [← HX.out]; exact hf) HB.out, ← HX.out]
                  have HAA := hide hA
                  clear hA hf
                  go_wp2_with fail
                  go_ret
                  exact ⟨by rw [HAA.out]; rfl, F5.out⟩
                | false =>
                  have HFF := hide hf
                  clear hf
                  go_wp2_with fail
                  go_roundw
                  case rel => exact ⟨i + 1, by omega, by go_num, fun j hj hji => by
                    rcases Nat.lt_or_ge j i with h1 | h1
                    · exact HB.out j hj h1
                    · have e : j = i := by omega
                      subst e
                      rw [← HX.out]; exact HFF.out, F5.out, K5.out⟩
                  case measure => simp [intOf]; omega
        · have hA : askS arch els oth rs r = els := by rw [HA.out, find_no (fun j hj => HB.out j hj (by omega))]
          have HAA := hide hA
          clear hA f
          go_wp2_with fail
          go_ret
          exact ⟨by rw [HAA.out]; rfl, FF.out⟩
    · have hb : (wd r 4 == arch) = false := by simpa using ha
      have hA := HO.out ha
      rw [hb, Bool.not_false]
      clear hb HS HO
      have HA := hide hA
      clear hA ha
      go_wp2_with fail
      go_ret
      exact ⟨by rw [HA.out]; rfl, F2.out⟩
#print axioms asked_any
end Go.Proofs.YtjgcfffepkmojabGreat
