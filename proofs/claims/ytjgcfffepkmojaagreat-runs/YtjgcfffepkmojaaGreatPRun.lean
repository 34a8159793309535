import Derived.Test.YtjgcfffepkmojaaGreatPEff
import Derived.Test.YtjgcfffepkmojaaGreatRRun
namespace Go.Proofs.YtjgcfffepkmojaaGreat
open Go.RowKit
set_option linter.unusedVariables false

theorem effects_t (w : World) (t : Array Value) (ht : t = tab) : Calls Tryz.prog 66 #[] w fun e w' => e = .returned (.agg t) ∧ Fr nob w w' := by
  rw [ht]
  exact effects_any w
theorem tab_ok (t : Array Value) (ht : t = tab) : (Tryz.prog.info? 129).map (·.size) = some t.size ∧ Tryz.zeroCells129.size = t.size ∧ t.all (·.oneCell') = true := by
  subst ht
  exact ⟨by kernel_rfl, by kernel_rfl, by kernel_rfl⟩

set_option maxRecDepth 100000 in
set_option maxHeartbeats 2000000 in
theorem mRun_any (w : World) (ao : Option Addr) (cap : Nat) (l : List Ins) (hv : View w ao (flat l)) (h : Good l) (r : ByteArray) (hr : r.size = 64) :
    Calls Tryz.prog 54 #[.slice ao l.length cap, .string r] w fun e w' => e = .returned (.tuple #[.int .u32 (ver l r), .int .i64 (fin l r : Int)]) ∧ Fr nob w w' := by
  have hpos := h.pos
  have hle := h.le
  have HG := hide h
  have HV := hide hv
  clear h hv
  obtain ⟨t, ht⟩ : ∃ t, t = tab := ⟨_, rfl⟩
  have HTAB := hide ht
  clear ht
  go_enter Tryz.func54, Tryz.ntmps54
  go_wp2_with fail
  refine (effects_t w t HTAB.out).mono ?_
  rintro e w1 ⟨rfl, f1⟩
  have k1 : (w1.alloc (.cells Tryz.zeroCells129 129)).heap[w1.heap.size]? = some (.cells Tryz.zeroCells129 129 (0, 0)) := heap_alloc_new w1 _
  have F1 := hide f1
  have K1 := hide k1
  clear f1 k1
  go_upto_region 2 with (refine wpList_store_row rfl 129 _ _ rfl w1.heap.size t rfl rfl 129 Tryz.zeroCells129 K1.out (tab_ok t HTAB.out).1 (tab_ok t HTAB.out).2.1 (tab_ok t HTAB.out).2.2 ?_)
  obtain ⟨w2, hw2⟩ : ∃ w2, w2 = (w1.alloc (.cells Tryz.zeroCells129 129)).setRow w1.heap.size t := ⟨_, rfl⟩
  rw [← hw2]
  have tb : w2.heap[w1.heap.size]? = some (.cells t 129 (0, 0)) := by rw [hw2]; exact setRow_heap _ _ _ _ _ _ K1.out
  have s2 : w2.heap.size = w1.heap.size + 1 := by rw [hw2, setRow_size, World.size_alloc]
  have f2 : Fr nob w w2 := by
    have f0 := F1.out.alloc (.cells Tryz.zeroCells129 129)
    have h1 := F1.out.size
    rw [hw2]
    refine ⟨f0.os, f0.tape, f0.output, by rw [setRow_size]; exact f0.size, fun k hk hS => ?_⟩
    rw [setRow_other _ _ _ _ (by omega)]
    exact f0.block k hk hS
  have hT : w1.heap.size ≠ w2.heap.size := by omega
  have hwT : w.heap.size ≤ w1.heap.size := F1.out.size
  obtain ⟨T, hTe⟩ : ∃ T, T = w1.heap.size := ⟨_, rfl⟩
  rw [← hTe] at tb hT hwT ⊢
  have hwg : w.heap.size ≤ w2.heap.size := by omega
  have k2 : (w2.alloc (.cells (pms m0 ⟨#[]⟩).toArray 134)).heap[w2.heap.size]? = some (.cells (pms m0 ⟨#[]⟩).toArray 134 (0, 0)) := heap_alloc_new w2 _
  have K2 := hide k2
  have TB := hide tb
  have F2 := hide f2
  have HT := hide hT
  clear hw2 tb s2 f2 K1 F1 hTe hT k2
  go_wp2_with (first
    | (refine wpList_build rfl 134 _ rfl (by kernel_rfl) ?_)
    | (refine wpList_store_row rfl 134 _ _ rfl w2.heap.size (pms m0 r).toArray rfl (by kernel_rfl) 134 (pms m0 ⟨#[]⟩).toArray K2.out (by kernel_rfl) (by kernel_rfl) (by kernel_rfl) ?_))
  simp only [Act.put]
  generalize Value.agg ((Tryz.prog.built 134 [(1, Value.string r)]).getD #[]) = v11
  obtain ⟨w3, hw3⟩ : ∃ w3, w3 = (w2.alloc (.cells (pms m0 ⟨#[]⟩).toArray 134)).setRow w2.heap.size (pms m0 r).toArray := ⟨_, rfl⟩
  change Code.wp _ _ _ _ ((w2.alloc (.cells (pms m0 ⟨#[]⟩).toArray 134)).setRow w2.heap.size (pms m0 r).toArray)
  rw [← hw3]
  have hb0 : PB w3 w2.heap.size m0 r := by rw [hw3]; exact setRow_heap _ _ _ _ _ _ K2.out
  have tb3 : w3.heap[T]? = some (.cells t 129 (0, 0)) := by
    rw [hw3, setRow_other _ _ _ _ HT.out]
    exact blk_alloc TB.out
  have f3 : Fr nob w w3 := by
    have f0 := F2.out.alloc (.cells (pms m0 ⟨#[]⟩).toArray 134)
    rw [hw3]
    refine ⟨f0.os, f0.tape, f0.output, by rw [setRow_size]; exact f0.size, fun k hk hS => ?_⟩
    rw [setRow_other _ _ _ _ (by omega)]
    exact f0.block k hk hS
  have HB0 := hide hb0
  have F3 := hide f3
  have TB3 := hide tb3
  obtain ⟨g, hge⟩ : ∃ g, g = w2.heap.size := ⟨_, rfl⟩
  rw [← hge] at HB0 HT hwg ⊢
  clear hw3 hb0 tb3 f3 K2 F2 TB hge
  go_loopw [5] (fun y wr => ∃ n : Nat, n ≤ l.length ∧ y = .int .i64 n ∧ PB wr g (stN l r n) r ∧ wr.heap[T]? = some (.cells t 129 (0, 0)) ∧ (∀ j, j < n → (stN l r j).e = false) ∧ Fr nob w wr) (fun y _ => l.length - (intOf y).toNat)
  case atStart => exact ⟨0, Nat.zero_le _, rfl, HB0.out, TB3.out, fun j hj => absurd hj (Nat.not_lt_zero _), F3.out⟩
  case round =>
    clear HB0 F3 TB3
    obtain ⟨n, hn, rfl, hb, tb, hj, f⟩ := hrel
    obtain ⟨m, hm⟩ : ∃ m, m = stN l r n := ⟨_, rfl⟩
    rw [← hm] at hb
    have c20 := hb.cell 20 (.bool m.e) rfl
    have c21 := hb.cell 21 (.int .u32 m.v) rfl
    have c19 := hb.cell 19 (.int .i64 m.pc) rfl
    have hgl := hb.lt
    have z := hb.fz
    have HM := hide hm
    have HB := hide hb
    have HJ := hide hj
    have FF := hide f
    have TB := hide tb
    clear hb hm hj tb
    cases he : m.e with
    | true =>
      have hfin : fin l r = n := fin_eq hn (by rw [← HM.out]; exact he) HJ.out
      have hver : ver l r = m.v := by unfold ver; rw [hfin, HM.out]
      have HF := hide hfin
      have HVV := hide hver
      clear hfin hver f
      rw [he] at c20
      clear he
      go_wp2_with fail
      go_ret2
      exact ⟨ret_vn HVV.out HF.out, FF.out⟩
    | false =>
      have hall : ∀ j, j ≤ n → (stN l r j).e = false := fun j h1 => by
        rcases Nat.lt_or_ge j n with h2 | h2
        · exact HJ.out j h2
        · rw [show j = n by omega, ← HM.out]; exact he
      obtain ⟨i1, i2⟩ := stN_inv HG.out r n hall
      rw [← HM.out] at i1 i2
      have hlt : n < l.length := by omega
      have hne : flat l ≠ [] := by intro e; have := flat_len l; rw [e] at this; simp at this; omega
      obtain ⟨b, off, rfl, hseg⟩ := (HV.out.fr0 f).some hne
      obtain ⟨x, hx⟩ : ∃ x, x = gI l m.pc := ⟨_, rfl⟩
      obtain ⟨v0, v1, v2, v3⟩ := seg_x hseg i1 hx
      have hbl : b < wr.heap.size := World.block_lt_of_cell? wr _ v0
      have hmo : m.ok := by rw [HM.out]; exact stN_ok HG.out r n
      have hxo : x.ok := by rw [hx]; exact HG.out.gok i1
      have hfl := HG.out.no _ i1
      rw [← hx] at hfl
      have hnext : stp x r m = stN l r (n + 1) := by rw [hx]; show _ = stp _ r (stN l r n); rw [← HM.out]
      have HMO := hide hmo
      have HXO := hide hxo
      have HFL := hide hfl
      have HN := hide hnext
      have HE := hide hall
      rw [he] at c20
      have hpc : IntKind.i64.wrap ((m.pc : Int) + 1) = (m.pc : Int) + 1 := by simp [IntKind.wrap_i64]; omega
      clear hmo hxo hfl hnext hx hseg hall he f
      go_upto_region 7 with fail
      have b4 : PB ((wr.setCell ⟨g, 19, none⟩ (.int .i64 ((m.pc : Int) + 1))).alloc (.cells #[.int .u16 x.code, .int .u8 x.jt, .int .u8 x.jf, .int .u32 x.k] 29)) g { m with pc := m.pc + 1 } r := (HB.out.set 19 _ { m with pc := m.pc + 1 } rfl).alloc _
      have f4 : Fr (only g) wr ((wr.setCell ⟨g, 19, none⟩ (.int .i64 ((m.pc : Int) + 1))).alloc (.cells #[.int .u16 x.code, .int .u8 x.jt, .int .u8 x.jf, .int .u32 x.k] 29)) := (only_set (Fr.refl _ wr) 19 _).alloc _
      have s4 : (wr.setCell ⟨g, 19, none⟩ (.int .i64 ((m.pc : Int) + 1))).heap.size = wr.heap.size := World.size_setCell _ _ _
      have k4 : ((wr.setCell ⟨g, 19, none⟩ (.int .i64 ((m.pc : Int) + 1))).alloc (.cells #[.int .u16 x.code, .int .u8 x.jt, .int .u8 x.jf, .int .u32 x.k] 29)).heap[wr.heap.size]? = some (.cells #[.int .u16 x.code, .int .u8 x.jt, .int .u8 x.jf, .int .u32 x.k] 29 (0, 0)) := by rw [← s4]; exact heap_alloc_new _ _
      obtain ⟨w4, hw4⟩ : ∃ w4, w4 = (wr.setCell ⟨g, 19, none⟩ (.int .i64 ((m.pc : Int) + 1))).alloc (.cells #[.int .u16 x.code, .int .u8 x.jt, .int .u8 x.jf, .int .u32 x.k] 29) := ⟨_, rfl⟩
      rw [← hw4] at b4 f4 k4 ⊢
      clear hw4 s4
      have t4 := f4.heap TB.out HT.out
      have F4 : Fr nob w w4 := fr_new FF.out hwg f4
      obtain ⟨F, fn, hF, hinv, hPT⟩ := eff_any w4.drew g m r (by exact b4) HMO.out x HXO.out (by omega) hr _ HFL.out
      obtain ⟨cn, hcn⟩ := Int.eq_ofNat_of_zero_le HXO.out.1.1
      have hcn2 : x.code.toNat = cn := by omega
      rw [hcn2] at hF
      have hcl : cn < 173 := by
        have h1 := (Array.getElem?_eq_some_iff.1 hF).1
        have h2 : tab.size = 173 := by kernel_rfl
        omega
      have ct : w4.cell? ⟨T, cn, none⟩ = some (.func F #[] #[]) := cell_blk t4 (by rw [HTAB.out]; exact hF)
      have q0 : w4.cell? ⟨wr.heap.size, 0, none⟩ = some (.int .u16 (cn : Int)) := by rw [← hcn]; exact cell_blk k4 rfl
      have q1 : w4.cell? ⟨wr.heap.size, 1, none⟩ = some (.int .u8 x.jt) := cell_blk k4 rfl
      have q2 : w4.cell? ⟨wr.heap.size, 2, none⟩ = some (.int .u8 x.jf) := cell_blk k4 rfl
      have q3 : w4.cell? ⟨wr.heap.size, 3, none⟩ = some (.int .u32 x.k) := cell_blk k4 rfl
      have hc0 : (0 : Int) ≤ (cn : Int) := by omega
      have hc1 : (cn : Int) < 173 := by omega
      have HINV := hide hinv
      have T4 := hide t4
      have HPT := hide hPT
      have B4 := hide b4
      have FF4 := hide F4
      have HCN := hide hcn
      clear hinv hPT b4 f4 k4 t4 F4 hF hcn hcn2 c19 c20 c21 v0 v1 v2 v3 z hpc
      go_still_tail 5, (by kernel_rfl)
      change wpList _ _ _ _ _ (World.drew _)
      refine wpList_byValue F fn _ #[.pointer (some ⟨g, 0, none⟩), .agg #[.int .u16 (cn : Int), .int .u8 x.jt, .int .u8 x.jf, .int .u32 x.k]] rfl (by kernel_rfl) (HINV.out _ _) ?_
      have hp2 := HPT.out
      unfold PT at hp2
      rw [HCN.out] at hp2
      refine hp2.mono ?_
      rintro e w5 ⟨rfl, b5, f5'⟩
      have f5 : Fr (only g) w4 w5 := ⟨f5'.os, f5'.tape, f5'.output, f5'.size, f5'.block⟩
      rw [HN.out] at b5
      have t5 : w5.heap[T]? = some (.cells t 129 (0, 0)) := f5.heap T4.out HT.out
      have F5 : Fr nob w w5 := fr_new FF4.out hwg f5
      refine ⟨_, rfl, ?_⟩
      refine wpList_nil ?_
      simp only [Act.put, List.setIfInBounds_toArray, List.set_cons_succ, List.set_cons_zero]
      go_wp2
      go_roundw
      case rel => exact ⟨n + 1, by omega, by go_num, b5, t5, fun j hj => HE.out j (by omega), F5⟩
      case measure => simp [intOf]; omega

set_option maxRecDepth 100000 in
set_option maxHeartbeats 2000000 in
/-- The program's Run answers what it must. -/
theorem sRun_any (w : World) (ao : Option Addr) (cap : Nat) (l : List Ins) (hv : View w ao (flat l)) (hok : ∀ x ∈ l, x.ok) (r : ByteArray) :
    Calls Tryz.prog 31 #[.slice ao l.length cap, .string r] w fun e w' => e = .returned (.tuple #[.int .u32 (runA l r).1, .int .i64 (runA l r).2.1, .int .i64 (runA l r).2.2]) ∧ Fr nob w w' := by
  have HK : Hid (Calls Tryz.prog 50 #[.slice ao l.length cap] w fun e w' => e = .returned (.tuple #[.int .i64 (chk l).1, .int .i64 (chk l).2]) ∧ Fr nob w w') := cProgram_any w ao cap l hv hok
  have HV := hide hv
  have HOK := hide hok
  clear hv hok
  go_enter Tryz.func31, Tryz.ntmps31
  go_wp2_with fail
  refine HK.out.mono ?_
  rintro e w1 ⟨rfl, f1⟩
  have F1 := hide f1
  clear f1 HK
  obtain ⟨ce, hce⟩ : ∃ ce, ce = (chk l).1 := ⟨_, rfl⟩
  obtain ⟨cn, hcn⟩ : ∃ cn, cn = (chk l).2 := ⟨_, rfl⟩
  rw [← hce, ← hcn]
  clear hcn
  by_cases h0 : ce = 0
  · have hg : Good l := chk_good HOK.out (by rw [← hce]; exact h0)
    by_cases h64 : r.size = 64
    · have hA : runA l r = (ver l r, (fin l r : Int), 0) := by unfold runA; rw [if_neg (by rw [← hce]; simpa using h0), if_neg (by simpa using h64)]
      have HP : Hid (Calls Tryz.prog 54 #[.slice ao l.length cap, .string r] w1 fun e w' => e = .returned (.tuple #[.int .u32 (ver l r), .int .i64 (fin l r : Int)]) ∧ Fr nob w1 w') := mRun_any w1 ao cap l (HV.out.fr0 F1.out) hg r h64
      have HA := hide hA
      have hi64 : (r.size : Int) = 64 := by omega
      clear hA hce hg h64
      subst h0
      go_wp2_with fail
      refine HP.out.mono ?_
      rintro e w2 ⟨rfl, f2⟩
      have F2 := hide (F1.out.trans f2)
      clear f2
      go_wp2_with fail
      go_ret3
      exact ⟨ret_vne HA.out, F2.out⟩
    · have hA : runA l r = (0, 0, 10) := by unfold runA; rw [if_neg (by rw [← hce]; simpa using h0), if_pos h64]
      have HA := hide hA
      have hi64 : ((r.size : Int) == 64) = false := by rw [beq_eq_false_iff_ne]; omega
      clear hA hce hg
      subst h0
      go_wp2_with fail
      go_ret3
      exact ⟨ret_vne HA.out, F1.out⟩
  · have hA : runA l r = (0, 0, ce) := by unfold runA; rw [if_pos (by rw [← hce]; exact h0), hce]
    have HA := hide hA
    have hz : (ce == 0) = false := by simp [h0]
    clear hA hce h0
    go_wp2_with fail
    go_ret3
    exact ⟨ret_vne HA.out, F1.out⟩
#print axioms sRun_any
end Go.Proofs.YtjgcfffepkmojaaGreat
