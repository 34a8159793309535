import Derived.StillTailTactics
import Derived.Test.YtjgcfffepkmojaaGreatRLaws
namespace Go.Proofs.YtjgcfffepkmojaaGreat
open Go.RowKit
set_option linter.unusedVariables false

theorem seg_x {w : World} {b off n : Nat} {l : List Ins} {x : Ins} (h : Seg w b off (flat l)) (hn : n < l.length) (hx : x = gI l n) :
    w.cell? ⟨b, off + n * 4, none⟩ = some (.int .u16 x.code) ∧ w.cell? ⟨b, off + n * 4 + 1, none⟩ = some (.int .u8 x.jt) ∧ w.cell? ⟨b, off + n * 4 + 2, none⟩ = some (.int .u8 x.jf) ∧ w.cell? ⟨b, off + n * 4 + 3, none⟩ = some (.int .u32 x.k) := by
  have := h.ins n hn
  rw [← gI_eq l n hn, ← hx] at this
  exact this
theorem sc_two (l : List Ins) (n : Nat) : (sc l n).length ≤ 2 := by
  unfold sc
  split
  · simp
  · split
    · simp
    · split <;> simp
set_option maxRecDepth 100000 in
set_option maxHeartbeats 8000000 in
theorem states_any (w : World) (ao : Option Addr) (cap : Nat) (l : List Ins) (hv : View w ao (flat l)) (h : Good l) :
    Calls Tryz.prog 53 #[.slice ao l.length cap] w fun e w' => ∃ g, e = .returned (.slice (some ⟨g, 0, none⟩) l.length l.length) ∧ OwnS w' g l.length (fun x => scs (pst l l.length x)) ∧ Fr nob w w' := by
  have hpos := h.pos
  have hle := h.le
  obtain ⟨i0, hi, hz0, hz1, hz2⟩ := info_parts info_state
  go_enter Tryz.func53, Tryz.ntmps53
  go_wp2_with (at_make; refine wpList_make_full _ rfl _ _ 107 rfl 0 111 i0 _ 17 Tryz.underlying107 hi hz0 hz1 _ _ _ _ l.length rfl rfl (by omega) (by omega) ?b1 ?b2 ?b3 ?_)
  case b1 => rw [hz2]; omega
  case b2 => unfold maxLen; omega
  case b3 => omega
  intro w1 o1 g1
  have f1 : Fr nob w w1 := (Fr.refl _ w).grown g1 (fun k _ h => by cases h)
  have o1' : OwnS w1 w.heap.size l.length (fun _ => scs none) := by
    unfold OwnS
    rw [rws_rep, ← made_rep (scs none).toArray l.length 17 (by simp [scs_len]) (by decide)]
    exact o1
  have o2 := OwnS.set o1' (fun _ => scs_len _) (t := 0) (j := 0) (.bool true) hpos (by decide)
  rw [srw_first l] at o2
  have hgl : w.heap.size < w1.heap.size := own_lt o1' (by simp [bk, Value.ownBlock])
  have e0 : w1.cell? ⟨w.heap.size, 0, none⟩ = some (.bool false) := OwnS.cell o1' (fun _ => scs_len _) (t := 0) (j := 0) hpos rfl
  have z0 : w1.frozen? ⟨w.heap.size, 0, none⟩ = false := o1'.frozenAt 0
  have F1 : Fr nob w (w1.setCell ⟨w.heap.size, 0, none⟩ (.bool true)) := f1.setCell (p := ⟨w.heap.size, 0, none⟩) (fun h => absurd h (Nat.lt_irrefl _)) _
  have O2 := hide o2
  have FF1 := hide F1
  clear o1 g1 f1 o1' hi hz0 hz1 hz2 i0 o2 F1
  go_wp2_with fail
  go_loopg [4] 2 (fun k y wr => Fr nob w wr ∧ ((k = 2 ∧ y = .bool true ∧ OwnS wr w.heap.size l.length (fun x => scs (pst l 0 x))) ∨ (k = 1 ∧ y = .bool true ∧ OwnS wr w.heap.size l.length (fun x => scs (pst l l.length x))) ∨ (k = 0 ∧ y = .bool false ∧ OwnS wr w.heap.size l.length (fun x => scs (pst l l.length x)))))
  case atStart => exact ⟨FF1.out, .inl ⟨rfl, rfl, O2.out⟩⟩
  case round =>
    clear O2 FF1 e0 z0
    obtain ⟨f, hrel⟩ := hrel
    by_cases hk : gk = 0
    · obtain ⟨rfl, o⟩ : _ ∧ OwnS wr w.heap.size l.length (fun x => scs (pst l l.length x)) := by
        rcases hrel with ⟨h1, h2, h3⟩ | ⟨h1, h2, h3⟩ | ⟨h1, h2, h3⟩
        · omega
        · omega
        · exact ⟨h2, h3⟩
      go_wp2
      go_ret
      exact ⟨_, rfl, o, f⟩
    · obtain ⟨q, fixed, rfl, o, hp, hfx⟩ : ∃ (q : Nat → Nat → Option Nat) (fixed : Prop), _ = Value.bool true ∧ OwnS wr w.heap.size l.length (fun x => scs (q 0 x)) ∧ Pas l q fixed ∧ (gk = 1 → fixed) := by
        rcases hrel with ⟨h1, h2, h3⟩ | ⟨h1, h2, h3⟩ | ⟨h1, h2, h3⟩
        · exact ⟨pst l, False, h2, h3, pas_one h, fun e => by omega⟩
        · exact ⟨fun _ => pst l l.length, True, h2, h3, pas_two h, fun _ => trivial⟩
        · omega
      have HP := hide hp
      have HFX := hide hfx
      have O := hide o
      have FF := hide f
      rename World => wA
      obtain ⟨gA, hgA⟩ : ∃ gA, gA = gk := ⟨_, rfl⟩
      subst hgA
      clear hp hfx hrel o f
      go_wp2_with fail
      go_loopg [5, 4] l.length (fun k y5 y4 wr => ∃ (n : Nat) (ch : Bool), k + n = l.length ∧ y5 = .int .i64 n ∧ y4 = .bool ch ∧ (fixed → ch = false) ∧ OwnS wr w.heap.size l.length (fun x => scs (q n x)) ∧ Fr nob w wr)
      case atStart => exact ⟨0, false, rfl, rfl, rfl, fun _ => rfl, O.out, FF.out⟩
      case round =>
        clear O FF
        obtain ⟨n, ch, hkn, rfl, rfl, hch, o, f⟩ := hrel
        rename World => wL
        by_cases hlt : n < l.length
        · have hne : flat l ≠ [] := by intro e; have := flat_len l; rw [e] at this; simp at this; omega
          obtain ⟨b, off, rfl, hseg⟩ := (hv.fr0 f).some hne
          have HSEG := hide hseg
          obtain ⟨x, hx⟩ : ∃ x, x = gI l n := ⟨_, rfl⟩
          obtain ⟨v0, v1, v2, v3⟩ := seg_x hseg hlt hx
          have hbl : b < wL.heap.size := World.block_lt_of_cell? wL _ v0
          have hgl : w.heap.size < wL.heap.size := own_lt o (by simp [bk, Value.ownBlock])
          have hgo := h.gok hlt
          rw [← hx] at hgo
          obtain ⟨⟨p1, p2⟩, ⟨p3, p4⟩, ⟨p5, p6⟩, ⟨p7, p8⟩⟩ := hgo
          have HX := hide hx
          have HCH := hide hch
          have O := hide o
          have FF := hide f
          clear hx hseg hch
          cases hs : q n n with
          | none =>
            have c0 : wL.cell? ⟨w.heap.size, n * 17, none⟩ = some (.bool false) := OwnS.cell o (fun _ => scs_len _) (j := 0) hlt (by rw [hs]; rfl)
            have HQ : Hid (q (n + 1) = q n) := (HP.out.next n hlt).trans (Flow.stp_none hs)
            clear hs o f
            go_wp2_with fail
            go_roundg (l.length - (n + 1))
            case measure => omega
            case rel => exact ⟨n + 1, ch, by omega, by go_num, rfl, HCH.out, by rw [HQ.out]; exact O.out, FF.out⟩
          | some S =>
            have c0 : wL.cell? ⟨w.heap.size, n * 17, none⟩ = some (.bool true) := OwnS.cell o (fun _ => scs_len _) (j := 0) hlt (by rw [hs]; rfl)
            have r1 : wL.rangeAt w.heap.size (n * 17 + 1) (bts S) := OwnS.range1 o (fun _ => scs_len _) hlt (a := .bool true) (by rw [hs]; rfl)
            have HS := hide hs
            have R1 := hide r1
            clear hs o f r1 v0 v1 v2 v3
            have HPP : Hid (0 ≤ x.code ∧ x.code < 65536 ∧ 0 ≤ x.k ∧ x.k < 4294967296) := ⟨p1, p2, p7, p8⟩
            clear p1 p2 p3 p4 p5 p6 p7 p8
            go_upto_region 10 with fail
            go_cut [6] (fun y6 wx => y6 = .pointer (some ⟨wL.heap.size, 0, none⟩) ∧ wx.heap[wL.heap.size]? = some (.cells (bts S).toArray 109) ∧ Fr nob wL wx)
            case first =>
              go_wp2_with (first
                | (refine wpList_load_mid rfl 109 _ rfl w.heap.size (n * 17 + 1) rfl (bts S) _ R1.out set_under rfl (set_size S) ?_)
                | (refine st_new rfl 109 _ _ rfl _ (bts S).toArray rfl rfl (set_sizeA S) rfl (bts_all S) ?_; intro w2 k2 f2 s2))
              go_meet
              exact ⟨rfl, k2, f2⟩
            case rest =>
              obtain ⟨rfl, k2, f2⟩ := hcut
              obtain ⟨v0, v1, v2, v3⟩ := seg_x (HSEG.out.fr f2 (fun h => h)) hlt HX.out
              have hbl2 : b < wc.heap.size := World.block_lt_of_cell? wc _ v0
              obtain ⟨sn, hsn⟩ : ∃ sn, sn = nameS x.code := ⟨_, rfl⟩
              obtain ⟨yn, hyn⟩ : ∃ yn, yn = byxS x.code := ⟨_, rfl⟩
              have HN : Hid (cls sn.toList yn = knd x.code) := by rw [hsn, hyn]; exact cls_knd _ HPP.out.1 HPP.out.2.1
              have K2 := hide k2
              have F2 := hide f2
              clear k2 f2
              go_wp2_with fail
              refine (name_any _ _).mono ?_
              rintro e w3 ⟨rfl, rfl⟩
              rw [← hsn, ← hyn]
              clear hsn hyn
              obtain ⟨d6, hd6⟩ : ∃ d6, d6 = decide (knd x.code = 6) := ⟨_, rfl⟩
              have hb6 : (sn.toList == [99, 101, 108, 108, 61, 97] || sn.toList == [99, 101, 108, 108, 61, 120]) = d6 := by
                rw [hd6, ← HN.out, Bool.eq_iff_iff]
                simp only [Bool.or_eq_true, beq_iff_eq, decide_eq_true_eq]
                exact (cls_six _ _).symm
              have HB6 := hide hb6
              have HD6 := hide hd6
              rename World => wB
              clear hb6 hd6
              go_upto_region 12 with fail
              go_cut [52] (fun y52 wx => y52 = .bool d6 ∧ wx = wB)
              case first =>
                have hb6 := HB6.out
                cases h1 : (sn.toList == [99, 101, 108, 108, 61, 97]) with
                | true =>
                  rw [h1, Bool.true_or] at hb6
                  have HB := hide hb6
                  clear hb6
                  go_wp2_with fail
                  go_meet
                  exact ⟨by rw [← HB.out], rfl⟩
                | false =>
                  rw [h1, Bool.false_or] at hb6
                  have HB := hide hb6
                  clear hb6
                  go_wp2_with fail
                  go_meet
                  exact ⟨by rw [← HB.out], rfl⟩
              case rest =>
                obtain ⟨rfl, rfl⟩ := hcut
                obtain ⟨U, hU⟩ : ∃ U, U = ou l n S := ⟨_, rfl⟩
                have HU := hide hU
                clear hU HB6 HN
                rename World => wB
                go_upto_if 52 with fail
                go_cut [] (fun wx => wx.heap[wL.heap.size]? = some (.cells (bts U).toArray 109) ∧ Fr nob wL wx)
                case first =>
                  cases d6 with
                  | false =>
                    have hUS : U = S := by
                      rw [HU.out]; unfold ou
                      rw [← HX.out, if_neg (by have := HD6.out; simpa using this.symm)]
                    have HUS := hide hUS
                    clear hUS
                    go_wp2_with fail
                    go_meet
                    exact ⟨by rw [HUS.out]; exact K2.out, F2.out⟩
                  | true =>
                    have h6 : knd x.code = 6 := by have := HD6.out; simpa using this.symm
                    have hcell := h.cell hlt (.inr (by rw [← HX.out]; exact h6))
                    rw [← HX.out] at hcell
                    obtain ⟨kn, hkn⟩ := Int.eq_ofNat_of_zero_le HPP.out.2.2.1
                    have hUS : U = S ||| 1 <<< kn := by
                      rw [HU.out]; unfold ou
                      rw [← HX.out, if_pos h6, hkn]; rfl
                    have HUS := hide hUS
                    rw [hkn] at hcell v3
                    have hk16 : kn < 16 := by omega
                    have hq0 : (0 : Int) ≤ (kn : Int) := by omega
                    have cc : wB.cell? ⟨wL.heap.size, kn, none⟩ = some (.bool (S.testBit kn)) := cell_blk K2.out (by rw [List.getElem?_toArray]; exact bts_get S kn hk16)
                    have cz : wB.frozen? ⟨wL.heap.size, kn, none⟩ = false := frozen_blk K2.out
                    have HKN := hide hkn
                    have HK16 := hide hk16
                    clear hUS h6 hkn hk16
                    go_wp2_with fail
                    go_meet
                    refine ⟨?_, F2.out.setCell (p := ⟨wL.heap.size, kn, none⟩) (fun h => absurd h (Nat.lt_irrefl _)) _⟩
                    rw [heap_setCell_same _ _ _ _ _ _ K2.out, HUS.out, ← bts_set S kn HK16.out]; simp
                case rest =>
                  obtain ⟨k3, f3⟩ := hcut
                  have K3 := hide k3
                  have F3 := hide (FF.out.trans f3)
                  have O3 := hide (own_fr O.out f3 (fun _ _ h => h))
                  have HNX : Hid (Calls Tryz.prog 65 #[.slice (some ⟨b, off, none⟩) l.length cap, .int .i64 n] wc fun e w' => ∃ na nc, e = .returned (.slice na (sc l n).length nc) ∧ View w' na (ivs ((sc l n).map (fun t : Nat => (t : Int)))) ∧ (∀ b off, na = some ⟨b, off, none⟩ → wc.heap.size ≤ b) ∧ Fr nob wc w') :=
                    next_any wc _ cap l (hv.fr0 (FF.out.trans f3)) h n hlt
                  have hgB : wL.heap.size ≠ w.heap.size := by omega
                  have hgc : w.heap.size < wc.heap.size := by have := f3.size; omega
                  clear k3 f3 v0 v1 v2 v3
                  go_wp2_with fail
                  refine HNX.out.mono ?_
                  rintro e w4 ⟨na, nc, rfl, hvn, hnn, f4⟩
                  have I : I3 w w4 w.heap.size l.length wL.heap.size (fun x => scs (q n x)) U na (ivs ((sc l n).map (fun t : Nat => (t : Int)))) :=
                    ⟨own_fr O3.out f4 (fun _ _ h => h), F3.out.trans f4, f4.heap K3.out (fun h => h), hvn⟩
                  have HI := hide I
                  have HNN : Hid (∀ b off, na = some ⟨b, off, none⟩ → b ≠ w.heap.size) := fun b off e => by have := hnn b off e; omega
                  clear I hvn hnn f4 HNX K3 F3 O3 hgc
                  rename World => wB
                  go_wp2_with fail
                  go_loopg [10, 4] (sc l n).length (fun k y10 y4 wx => ∃ (m : Nat) (ch : Bool), k + m = (sc l n).length ∧ y10 = .int .i64 m ∧ y4 = .bool ch ∧ (fixed → ch = false) ∧ I3 w wx w.heap.size l.length wL.heap.size (fun x => scs (Flow.feed (q n) U ((sc l n).take m) x)) U na (ivs ((sc l n).map (fun t : Nat => (t : Int)))))
                  case atStart => exact ⟨0, ch, rfl, rfl, rfl, HCH.out, HI.out⟩
                  case round =>
                    clear HI HCH K2 F2
                    obtain ⟨m, c3, hkm, rfl, rfl, hc3, I⟩ := hrel
                    rename World => wM
                    have HC3 := hide hc3
                    clear hc3
                    by_cases hm : m < (sc l n).length
                    · obtain ⟨t, ht⟩ : ∃ t, t = (sc l n)[m] := ⟨_, rfl⟩
                      have htl : t < l.length := by rw [ht]; exact h.sc_in hlt _ (List.getElem_mem hm)
                      have hget : (ivs ((sc l n).map (fun t : Nat => (t : Int))))[m]? = some (.int .i64 (t : Int)) := by
                        simp [ivs, ht, hm]
                      have hnex : ivs ((sc l n).map (fun t : Nat => (t : Int))) ≠ [] := by intro e; rw [e] at hget; cases hget
                      obtain ⟨nb, noff, hna, hnseg⟩ := I.v.some hnex
                      subst hna
                      have cn : wM.cell? ⟨nb, noff + m, none⟩ = some (.int .i64 (t : Int)) := hnseg m _ hget
                      obtain ⟨st, hst⟩ : ∃ st, st = Flow.feed (q n) U ((sc l n).take m) := ⟨_, rfl⟩
                      rw [← hst] at I
                      have HST := hide hst
                      have HT := hide ht
                      have HI := hide I
                      have RT : Hid (wM.rangeAt w.heap.size (t * 17) (scs (st t))) := OwnS.range I.o (fun _ => scs_len _) htl
                      have hmi : (m : Int) < ((sc l n).length : Int) := by omega
                      have hm2 := sc_two l n
                      have hti : (t : Int) < (l.length : Int) := by omega
                      clear hst ht I hget hnex hnseg
                      go_upto_region 19 with fail
                      go_cut [12] (fun y12 wx => y12 = .pointer (some ⟨wM.heap.size, 0, none⟩) ∧ wx.heap[wM.heap.size]? = some (.cells (scs (st t)).toArray 111) ∧ Fr nob wM wx)
                      case first =>
                        go_wp2_with (first
                          | (refine wpList_load_mid rfl 111 _ rfl w.heap.size (t * 17) rfl (scs (st t)) _ RT.out state_under rfl (state_size _) ?_)
                          | (refine st_newS rfl _ _ rfl _ (st t) rfl rfl rfl ?_; intro w2 k2 f2 s2))
                        go_meet
                        exact ⟨rfl, k2, f2⟩
                      case rest =>
                        obtain ⟨rfl, k5, f5⟩ := hcut
                        rename World => wN
                        have I5 := HI.out.fr f5
                        have hBM : wM.heap.size ≠ w.heap.size := by have := own_lt HI.out.o (k := w.heap.size) (by simp [bk, Value.ownBlock]); omega
                        obtain ⟨r0, hr0⟩ : ∃ r0, r0 = (st t).isSome := ⟨_, rfl⟩
                        have c0 : wN.cell? ⟨w.heap.size, t * 17, none⟩ = some (.bool r0) := OwnS.cell I5.o (fun _ => scs_len _) (j := 0) htl (by rw [hr0]; cases st t <;> rfl)
                        have z0 : ∀ z, wN.frozen? ⟨w.heap.size, z, none⟩ = false := fun z => I5.o.frozenAt z
                        have HI5 := hide I5
                        have K5 := hide k5
                        have HR0 := hide hr0
                        clear I5 k5 f5 hr0 RT cn HI
                        go_upto_if 81 with fail
                        go_cut [] (fun wx => I3 w wx w.heap.size l.length wL.heap.size (upd (fun x => scs (st x)) t (.bool true :: bts (rp (st t) U))) U (some ⟨nb, noff, none⟩) (ivs ((sc l n).map (fun t : Nat => (t : Int)))) ∧ wx.heap[wM.heap.size]? = some (.cells (scs (st t)).toArray 111))
                        case first =>
                          cases r0 with
                          | true =>
                            obtain ⟨R, hR⟩ := Option.isSome_iff_exists.1 HR0.out.symm
                            have HR := hide hR
                            clear hR
                            go_wp2_with fail
                            go_meet
                            refine ⟨?_, K5.out⟩
                            have e1 : Value.bool true :: bts (rp (st t) U) = scs (st t) := by rw [HR.out]; rfl
                            have e2 := upd_self (fun x => scs (st x)) t
                            rw [e1, e2]
                            exact HI5.out
                          | false =>
                            have hR : st t = none := by have := HR0.out; cases h : st t with | none => rfl | some R => rw [h] at this; cases this
                            have I6 := HI5.out.set (fun _ => scs_len _) hgB (Nat.le_refl _) HNN.out (t := t) (j := 0) (.bool true) htl (by decide)
                            have e1 : (scs (st t)).set 0 (Value.bool true) = .bool true :: bts 0 := by rw [hR]; rfl
                            rw [e1] at I6
                            have HI6 := hide I6
                            have K6 : Hid ((wN.setCell ⟨w.heap.size, t * 17, none⟩ (.bool true)).heap[wM.heap.size]? = some (.cells (scs (st t)).toArray 111)) := (heap_setCell_other _ _ _ _ hBM).trans K5.out
                            have HR := hide hR
                            clear hR I6 e1
                            go_upto_region 21 with fail
                            go_cut [] (fun wx => I3 w wx w.heap.size l.length wL.heap.size (upd (fun x => scs (st x)) t (.bool true :: bts 0)) U (some ⟨nb, noff, none⟩) (ivs ((sc l n).map (fun t : Nat => (t : Int)))) ∧ wx.heap[wM.heap.size]? = some (.cells (scs (st t)).toArray 111))
                            case first =>
                              go_wp2_with fail
                              go_meet
                              exact ⟨HI6.out, K6.out⟩
                            case rest =>
                              obtain ⟨I6, k6⟩ := hcut
                              rename World => wT
                              clear HI6 K6 c0 z0 HI5 K5
                              have hf6 := upd_len (fun x => scs_len (st x)) (t := t) (r := .bool true :: bts 0) (by simp [bts_len])
                              have RB : Hid (wT.rangeAt wL.heap.size 0 (bts U)) := rangeAt_blk I6.k
                              have TH : Hid (wT.there w.heap.size (t * 17 + 1) (bts U).toArray.size) := there_bts (OwnS.there I6.o hf6 htl) U
                              have I7 := I6.cells hf6 hgB (Nat.le_refl _) HNN.out (t := t) (.bool true) (bts 0) (bts U) (upd_at _ _ _) htl (bts_len U)
                              rw [upd_upd] at I7
                              have HI7 := hide I7
                              have K7 : Hid ((wT.setCells w.heap.size (t * 17 + 1) (bts U)).heap[wM.heap.size]? = some (.cells (scs (st t)).toArray 111)) := by
                                show _ = _
                                rw [heap_cells _ _ hBM]; exact k6
                              clear I6 k6 I7 hf6
                              go_wp2_with (first
                                | (refine wpList_load_mid rfl 109 _ rfl wL.heap.size 0 rfl (bts U) _ RB.out set_under rfl (set_size U) ?_)
                                | (refine wpList_store_mid rfl 109 _ _ rfl w.heap.size (t * 17 + 1) (bts U).toArray rfl rfl TH.out (set_sizeA U) (bts_all U) ?_))
                              go_meet
                              rw [HR.out]
                              rw [HR.out] at K7
                              exact ⟨HI7.out, K7.out⟩
                        case rest =>
                          obtain ⟨I6, k6⟩ := hcut
                          rename World => wO
                          have HI6 := hide I6
                          have K6 := hide k6
                          clear I6 k6 c0 z0 HI5 K5
                          go_wp2_with fail
                          go_loopg [13] 16 (fun k y13 wx => ∃ c : Nat, k + c = 16 ∧ y13 = .int .i64 c ∧ I3 w wx w.heap.size l.length wL.heap.size (upd (fun x => scs (st x)) t (.bool true :: mx (rp (st t) U) U c)) U (some ⟨nb, noff, none⟩) (ivs ((sc l n).map (fun t : Nat => (t : Int)))) ∧ wx.heap[wM.heap.size]? = some (.cells (scs (st t)).toArray 111))
                          case atStart => exact ⟨0, rfl, rfl, by rw [mx_zero]; exact HI6.out, K6.out⟩
                          case round =>
                            clear HI6 K6
                            obtain ⟨c, hkc, rfl, I, k7⟩ := hrel
                            rename World => wP
                            have K7 := hide k7
                            clear k7
                            by_cases hc : c < 16
                            · obtain ⟨rb, hrb⟩ : ∃ rb, rb = (rp (st t) U).testBit c := ⟨_, rfl⟩
                              obtain ⟨ub, hub⟩ : ∃ ub, ub = U.testBit c := ⟨_, rfl⟩
                              have hfl := upd_len (fun x => scs_len (st x)) (t := t) (r := .bool true :: mx (rp (st t) U) U c) (by simp [mx_len])
                              have cs : wP.cell? ⟨w.heap.size, t * 17 + 1 + c, none⟩ = some (.bool rb) := by
                                have := OwnS.cell I.o hfl (t := t) (j := c + 1) (v := .bool rb) htl (by
                                  rw [upd_at, hrb]
                                  show (mx (rp (st t) U) U c)[c]? = _
                                  rw [mx_get _ _ _ _ hc, if_neg (Nat.lt_irrefl _)])
                                rw [show t * 17 + (c + 1) = t * 17 + 1 + c by omega] at this
                                exact this
                              have cu : wP.cell? ⟨wL.heap.size, c, none⟩ = some (.bool ub) := cell_blk I.k (by rw [List.getElem?_toArray, hub]; exact bts_get U c hc)
                              have z1 : wP.frozen? ⟨w.heap.size, t * 17 + 1 + c, none⟩ = false := I.o.frozenAt _
                              have hci0 : (0 : Int) ≤ (c : Int) := by omega
                              have hci : (c : Int) < 16 := by omega
                              have I8 := I.set hfl hgB (Nat.le_refl _) HNN.out (t := t) (j := c + 1) (.bool (rb && ub)) htl (by omega)
                              have e1 : (Value.bool true :: mx (rp (st t) U) U c).set (c + 1) (.bool (rb && ub)) = .bool true :: mx (rp (st t) U) U (c + 1) := by
                                rw [List.set_cons_succ, hrb, hub, mx_set _ _ _ hc]
                              rw [upd_at, upd_upd, e1, show t * 17 + (c + 1) = t * 17 + 1 + c by omega] at I8
                              have HI8 := hide I8
                              have K8 : Hid ((wP.setCell ⟨w.heap.size, t * 17 + 1 + c, none⟩ (.bool (rb && ub))).heap[wM.heap.size]? = some (.cells (scs (st t)).toArray 111)) := (heap_setCell_other _ _ _ _ hBM).trans K7.out
                              clear I I8 e1 hfl hrb hub
                              cases rb with
                              | true =>
                                go_wp2_with fail
                                go_still_tail 16, (by kernel_rfl)
                                change wpList _ _ _ _ _ wP.drew
                                go_wp2_with fail
                                go_roundg (16 - (c + 1))
                                case measure => omega
                                case rel => exact ⟨c + 1, by omega, by go_num, HI8.out.fr ((Fr.refl nob _).drew), K8.out⟩
                              | false =>
                                go_wp2_with fail
                                go_still_tail 16, (by kernel_rfl)
                                change wpList _ _ _ _ _ wP.drew
                                go_wp2_with fail
                                go_roundg (16 - (c + 1))
                                case measure => omega
                                case rel => exact ⟨c + 1, by omega, by go_num, HI8.out.fr ((Fr.refl nob _).drew), K8.out⟩
                            · have hc16 : c = 16 := by omega
                              have e1 : Value.bool true :: mx (rp (st t) U) U c = scs (Flow.jn (st t) U) := by rw [hc16, mx_end, jn_rp]; rfl
                              rw [e1] at I
                              have hfl := upd_len (fun x => scs_len (st x)) (t := t) (r := scs (Flow.jn (st t) U)) (scs_len _)
                              have RN : Hid (wP.rangeAt w.heap.size (t * 17) (scs (Flow.jn (st t) U))) := by
                                have := OwnS.range I.o hfl htl
                                rw [upd_at] at this
                                exact this
                              have RW : Hid (wP.rangeAt wM.heap.size 0 (scs (st t))) := rangeAt_blk K7.out
                              rw [← feed_take hm HT.out HST.out] at I
                              have HI9 := hide I
                              obtain ⟨r, hr, hrr⟩ := neq_state (st t) (Flow.jn (st t) U)
                              have HR := hide hr
                              have HFIX : Hid (fixed → r = false) := fun hfx => hrr (by rw [HST.out]; exact (HP.out.same hfx hlt HS.out HU.out hm HT.out).symm)
                              clear I e1 hfl hr hrr hc16
                              cases c3 with
                              | true =>
                                go_wp2_with fail
                                go_quiet (fail)
                                go_wp2_with fail
                                go_roundg ((sc l n).length - (m + 1))
                                case measure => omega
                                case rel => exact ⟨m + 1, true, by omega, by go_num, rfl, HC3.out, HI9.out.fr ((Fr.refl nob _).drewN _)⟩
                              | false =>
                                go_wp2_with fail
                                refine wp_region_quiet_lit (by kernel_rfl) (by kernel_rfl) ?_
                                go_big_quiet_want
                                go_big_quiet_op
                                go_big_quiet_on
                                go_big_quiet_want
                                go_big_quiet_op
                                go_big_quiet_on
                                go_big_quiet_want
                                refine quiet_ld 111 _ rfl wM.heap.size 0 rfl (scs (st t)) _ ?_ state_under rfl (state_size _) ?_
                                · rintro w' ⟨k, rfl⟩; exact RW.out
                                go_simp
                                go_big_quiet_on
                                go_big_quiet_want
                                go_big_quiet_op
                                go_big_quiet_on
                                go_big_quiet_want
                                go_big_quiet_op
                                go_big_quiet_on
                                go_big_quiet_want
                                refine quiet_ld 111 _ rfl w.heap.size (t * 17) rfl (scs (Flow.jn (st t) U)) _ ?_ state_under rfl (state_size _) ?_
                                · rintro w' ⟨k, rfl⟩; exact RN.out
                                go_simp
                                go_big_quiet_on
                                go_big_quiet_want
                                refine quiet_neq _ _ rfl (scs (st t)).toArray (scs (Flow.jn (st t) U)).toArray rfl rfl r HR.out ?_
                                go_simp
                                go_big_quiet_on
                                go_big_quiet_want
                                go_big_quiet_op
                                go_big_quiet_on
                                go_big_quiet_want
                                go_big_quiet_op
                                go_big_quiet_on
                                refine wpQuiet_nil ?_
                                intro _ hw'
                                obtain ⟨nq, hw''⟩ := hw'
                                subst hw''
                                go_wp2_with fail
                                go_roundg ((sc l n).length - (m + 1))
                                case measure => omega
                                case rel => exact ⟨m + 1, r, by omega, by go_num, rfl, HFIX.out, HI9.out.fr ((Fr.refl nob _).drewN _)⟩
                    · have hml : m = (sc l n).length := by omega
                      have hfd : Flow.feed (q n) U ((sc l n).take m) = q (n + 1) := by
                        rw [hml, List.take_length, HP.out.next n hlt, Flow.stp_some HS.out, ← HU.out]
                      rw [hfd] at I
                      have HI := hide I
                      have hm' : (sc l n).length ≤ m := by omega
                      clear I hfd hml
                      go_wp2_with fail
                      go_roundg (l.length - (n + 1))
                      case measure => omega
                      case rel => exact ⟨n + 1, c3, by omega, by go_num, rfl, HC3.out, HI.out.o, HI.out.f⟩
        · have hn : n = l.length := by omega
          have hch' : gA = 1 → ch = false := fun e => hch (HFX.out e)
          have HC := hide hch'
          have O := hide o
          have FF := hide f
          clear hch hch' o f
          go_wp2_with fail
          go_roundg (if ch then 1 else 0)
          case measure =>
            cases ch with
            | false => simp; omega
            | true =>
              have : gA ≠ 1 := fun e => by have := HC.out e; cases this
              simp; omega
          case rel =>
            refine ⟨FF.out, .inr ?_⟩
            have o := O.out
            rw [hn, HP.out.fin] at o
            cases ch with
            | false => exact .inr ⟨rfl, rfl, o⟩
            | true => exact .inl ⟨rfl, rfl, o⟩
end Go.Proofs.YtjgcfffepkmojaaGreat
