import Derived.Test.YtjgcfffepkmojaaGreatStates
namespace Go.Proofs.YtjgcfffepkmojaaGreat
open Go.RowKit
set_option linter.unusedVariables false

theorem bad_none {l : List Ins} {n : Nat} (h : pst l n n = none) : bad l n = false := by unfold bad; rw [h]
theorem bad_some {l : List Ins} {n S : Nat} (h : pst l n n = some S) : bad l n = (decide (knd (gI l n).code = 5) && !(S.testBit (gI l n).k.toNat)) := by unfold bad; rw [h]
theorem uns_at {l : List Ins} {i : Nat} (hlt : i < l.length) (hb : bad l i = true) (h : ∀ j, j < i → bad l j = false) : uns l = (9, (i : Int)) := by
  unfold uns
  rw [find_first (bad l) l.length i hlt hb h]
theorem uns_no {l : List Ins} (h : ∀ j, j < l.length → bad l j = false) : uns l = (0, 0) := by
  unfold uns
  rw [find_none _ _ h]

set_option maxRecDepth 100000 in
set_option maxHeartbeats 4000000 in
theorem rCheck_any (w : World) (ao : Option Addr) (cap : Nat) (l : List Ins) (hv : View w ao (flat l)) (hok : ∀ x ∈ l, x.ok) :
    Calls Tryz.prog 30 #[.slice ao l.length cap] w fun e w' => e = .returned (.tuple #[.int .i64 (chk l).1, .int .i64 (chk l).2]) ∧ Fr nob w w' := by
  by_cases h0 : l.length = 0
  · have HC := hide (chk_len (.inl h0))
    go_enter Tryz.func30, Tryz.ntmps30
    go_wp2
    go_ret2
    exact ⟨ret_ii HC.out, Fr.refl _ w⟩
  by_cases h1 : 4096 < l.length
  · have HC := hide (chk_len (.inr h1))
    have e0 : ((l.length : Int) == 0) = false := by rw [beq_eq_false_iff_ne]; omega
    have e1 : decide ((4096 : Int) < (l.length : Int)) = true := by simp; omega
    go_enter Tryz.func30, Tryz.ntmps30
    go_wp2
    go_ret2
    exact ⟨ret_ii HC.out, Fr.refl _ w⟩
  have hnl : ¬ (l.length = 0 ∨ 4096 < l.length) := by omega
  have e0 : ((l.length : Int) == 0) = false := by rw [beq_eq_false_iff_ne]; omega
  have e1 : decide ((4096 : Int) < (l.length : Int)) = false := by simp; omega
  obtain ⟨m, hm⟩ : ∃ m, l.length = m + 1 := ⟨l.length - 1, by omega⟩
  have hwl : IntKind.i64.wrap ((l.length : Int) - 1) = (m : Int) := by rw [IntKind.wrap_i64]; omega
  have HM := hide hm
  clear hm
  go_enter Tryz.func30, Tryz.ntmps30
  go_wp2_with fail
  go_loopw [4] (fun y wr => ∃ i : Nat, i ≤ l.length ∧ y = .int .i64 i ∧ (∀ j, j < i → ft l j = false) ∧ Fr nob w wr) (fun y _ => l.length - (intOf y).toNat)
  case atStart => exact ⟨0, Nat.zero_le _, rfl, fun j hj => absurd hj (Nat.not_lt_zero _), Fr.refl _ w⟩
  case round =>
    obtain ⟨i, hin, rfl, hb, f⟩ := hrel
    have hne : flat l ≠ [] := by intro e; have := flat_len l; rw [e] at this; simp at this; omega
    obtain ⟨b, off, rfl, hseg⟩ := (hv.fr0 f).some hne
    have HB := hide hb
    clear hb
    by_cases hlt : i < l.length
    · obtain ⟨v0, v1, v2, v3⟩ := hseg.ins i hlt
      have hbl : b < wr.heap.size := World.block_lt_of_cell? wr _ v0
      have hgo : (gI l i).ok := by rw [gI_eq l i hlt]; exact hok _ (List.getElem_mem hlt)
      obtain ⟨x, hx⟩ : ∃ x, x = gI l i := ⟨_, rfl⟩
      rw [← gI_eq l i hlt, ← hx] at v0 v1 v2 v3
      rw [← hx] at hgo
      obtain ⟨left, hleft⟩ : ∃ left : Int, left = (l.length : Int) - 1 - i := ⟨_, rfl⟩
      have hw1 : IntKind.i64.wrap ((m : Int) - (i : Int)) = left := by have := HM.out; rw [IntKind.wrap_i64]; omega
      have HF : Hid (∀ w, Calls Tryz.prog 51 #[.agg #[.int .u16 x.code, .int .u8 x.jt, .int .u8 x.jf, .int .u32 x.k], .int .i64 left] w fun e w' => e = .returned (.int .i64 (flt x left)) ∧ Fr nob w w') :=
        fun w => by rw [← wrg_flt x left hgo]; exact wrong_any w x left (by omega) (by omega) hgo
      have HX := hide hx
      have HL := hide hleft
      clear hx hseg hgo hleft
      go_wp2_with fail
      refine (HF.out _).mono ?_
      rintro e w2 ⟨rfl, f2⟩
      have F2 : Fr nob w w2 := Fr.trans f f2
      obtain ⟨ev, hev⟩ : ∃ ev, ev = flt x left := ⟨_, rfl⟩
      rw [← hev]
      have HE := hide hev
      clear hev f2
      by_cases hz : ev = 0
      · have hfi : ft l i = false := by
          have h1 := HE.out
          rw [HX.out, HL.out, hz] at h1
          unfold ft
          rw [← h1]; rfl
        have HFI := hide hfi
        clear hfi
        subst hz
        go_wp2
        go_roundw
        case rel => exact ⟨i + 1, by omega, by go_num, lt_succ_or HB.out HFI.out, F2⟩
        case measure => simp [intOf]; omega
      · have hz' : (ev == 0) = false := by simp [hz]
        have hc : chk l = (ev, (i : Int)) := by
          have h1 := HE.out
          rw [HX.out, HL.out] at h1
          rw [h1]
          exact chk_bad hnl i hlt HB.out (by rw [← h1]; exact hz)
        have HC := hide hc
        clear hc
        go_wp2
        go_ret2
        exact ⟨ret_ii HC.out, F2⟩
    · have hil : i = l.length := by omega
      have hlt2 : m < l.length := by have := HM.out; omega
      obtain ⟨x, hx⟩ : ∃ x, x = gI l m := ⟨_, rfl⟩
      obtain ⟨v0, v1, v2, v3⟩ := seg_x hseg hlt2 hx
      have hbl : b < wr.heap.size := World.block_lt_of_cell? wr _ v0
      have hgo : x.ok := by rw [hx, gI_eq l m hlt2]; exact hok _ (List.getElem_mem hlt2)
      obtain ⟨d9, hd9⟩ : ∃ d9, d9 = decide (knd x.code = 9) := ⟨_, rfl⟩
      have hb : ∀ j, j < l.length → ft l j = false := fun j hj => HB.out j (by omega)
      have hkk : (gI l (l.length - 1)).code = x.code := by rw [hx, HM.out]; rfl
      obtain ⟨sn, hsn⟩ : ∃ sn, sn = nameS x.code := ⟨_, rfl⟩
      obtain ⟨yn, hyn⟩ : ∃ yn, yn = byxS x.code := ⟨_, rfl⟩
      have hb9 : (sn.toList == [114, 101, 116, 107] || sn.toList == [114, 101, 116, 97]) = d9 := by
        rw [hd9, ← cls_knd _ hgo.1.1 hgo.1.2, ← hsn, ← hyn, Bool.eq_iff_iff]
        simp only [Bool.or_eq_true, beq_iff_eq, decide_eq_true_eq]
        exact (cls_nine _ _).symm
      have HB9 := hide hb9
      have HD9 := hide hd9
      have HKK := hide hkk
      have HB2 := hide hb
      have HOK := hide hok
      have FF := hide f
      clear hx hseg v1 v2 v3 hkk hb HB hok hb9 hd9 hgo f
      go_wp2_with fail
      refine (name_any _ _).mono ?_
      rintro e w3 ⟨rfl, rfl⟩
      rw [← hsn, ← hyn]
      clear hsn hyn
      rename World => wB
      go_upto_region 10 with fail
      go_cut [56] (fun y wx => y = .bool (!d9) ∧ wx = wB)
      case first =>
        have hb9 := HB9.out
        cases h1 : (sn.toList == [114, 101, 116, 107]) with
        | true =>
          rw [h1, Bool.true_or] at hb9
          have HB := hide hb9
          clear hb9
          go_wp2_with fail
          go_meet
          exact ⟨by rw [← HB.out]; rfl, rfl⟩
        | false =>
          rw [h1, Bool.false_or] at hb9
          have HB := hide hb9
          clear hb9
          go_wp2_with fail
          go_meet
          exact ⟨by rw [← HB.out], rfl⟩
      case rest =>
        obtain ⟨rfl, rfl⟩ := hcut
        rename World => wB
        clear HB9
        cases d9 with
        | false =>
          have h9 : ¬ knd x.code = 9 := by have := HD9.out; simpa using this.symm
          have hc : chk l = (8, (m : Int)) := by
            rw [chk_end hnl HB2.out (by rw [HKK.out]; exact h9), HM.out]
            congr 1; omega
          have HC := hide hc
          clear hc h9
          go_wp2_with fail
          go_ret2
          exact ⟨ret_ii HC.out, FF.out⟩
        | true =>
          have h9 : knd x.code = 9 := by have := HD9.out; simpa using this.symm
          have hG : Good l := good_of hnl HOK.out HB2.out (by rw [HKK.out]; exact h9)
          have HC := hide (chk_uns hnl HB2.out (by rw [HKK.out]; exact h9))
          have HG := hide hG
          have HST : Hid (∀ cap, Calls Tryz.prog 53 #[.slice (some ⟨b, off, none⟩) l.length cap] wB fun e w' => ∃ g, e = .returned (.slice (some ⟨g, 0, none⟩) l.length l.length) ∧ OwnS w' g l.length (fun x => scs (pst l l.length x)) ∧ Fr nob wB w') :=
            fun cap => states_any wB _ cap l (hv.fr0 FF.out) hG
          clear h9 hG HB2 HOK HKK HD9 v0
          go_wp2_with fail
          refine (HST.out _).mono ?_
          rintro e w3 ⟨g, rfl, o3, f3⟩
          have O3 := hide o3
          have F3 := hide (Fr.trans FF.out f3)
          clear o3 f3 HST FF
          go_wp2_with fail
          go_loopw [9] (fun y wx => ∃ n : Nat, n ≤ l.length ∧ y = .int .i64 n ∧ OwnS wx g l.length (fun x => scs (pst l l.length x)) ∧ (∀ j, j < n → bad l j = false) ∧ Fr nob w wx) (fun y _ => l.length - (intOf y).toNat)
          case atStart => exact ⟨0, Nat.zero_le _, rfl, O3.out, fun j hj => absurd hj (Nat.not_lt_zero _), F3.out⟩
          case round =>
            clear O3 F3
            obtain ⟨n, hnl2, rfl, o, hbn, f⟩ := hrel
            rename World => wL
            have HBN := hide hbn
            have FF := hide f
            have O := hide o
            clear hbn
            by_cases hlt : n < l.length
            · obtain ⟨z, hz⟩ : ∃ z, z = gI l n := ⟨_, rfl⟩
              have hne : flat l ≠ [] := by intro e; have := flat_len l; rw [e] at this; simp at this; omega
              obtain ⟨b', off', hbo, hseg⟩ := (hv.fr0 f).some hne
              obtain ⟨rfl, rfl⟩ : b = b' ∧ off = off' := by cases hbo; exact ⟨rfl, rfl⟩
              obtain ⟨v0, v1, v2, v3⟩ := seg_x hseg hlt hz
              have hbl2 : b < wL.heap.size := World.block_lt_of_cell? wL _ v0
              have hgo := HG.out.gok hlt
              rw [← hz] at hgo
              obtain ⟨sn, hsn⟩ : ∃ sn, sn = nameS z.code := ⟨_, rfl⟩
              obtain ⟨yn, hyn⟩ : ∃ yn, yn = byxS z.code := ⟨_, rfl⟩
              have HN : Hid (cls sn.toList yn = knd z.code) := by rw [hsn, hyn]; exact cls_knd _ hgo.1.1 hgo.1.2
              obtain ⟨kn, hkn⟩ := Int.eq_ofNat_of_zero_le hgo.2.2.2.1
              rw [hkn] at v3
              have HKN := hide hkn
              have HZ := hide hz
              obtain ⟨bd, hbd⟩ : ∃ bd, bd = bad l n := ⟨_, rfl⟩
              have HBD := hide hbd
              have hdone : pst l l.length n = pst l n n := Flow.pass_done (sc_fwd l) n l.length (by omega)
              have HDONE := hide hdone
              clear hseg v1 v2 hgo hkn hz hbd hdone hbo
              go_wp2_with fail
              refine (name_any _ _).mono ?_
              rintro e w4 ⟨rfl, rfl⟩
              rw [← hsn, ← hyn]
              clear hsn hyn
              rename World => wL
              go_upto_region 17 with fail
              go_cut [103] (fun y wx => y = .bool bd ∧ OwnS wx g l.length (fun x => scs (pst l l.length x)) ∧ Fr nob w wx)
              case first =>
                cases hs : pst l n n with
                | none =>
                  have hb1 : bd = false := by rw [HBD.out]; exact bad_none hs
                  have c0 : wL.cell? ⟨g, n * 17, none⟩ = some (.bool false) := OwnS.cell O.out (fun _ => scs_len _) (j := 0) hlt (by rw [HDONE.out, hs]; rfl)
                  have HB1 := hide hb1
                  clear hb1 hs o f v3
                  go_quiet (fail)
                  go_wp2_with fail
                  go_meet
                  exact ⟨by rw [HB1.out], O.out, FF.out.drewN _⟩
                | some S =>
                  have c0 : wL.cell? ⟨g, n * 17, none⟩ = some (.bool true) := OwnS.cell O.out (fun _ => scs_len _) (j := 0) hlt (by rw [HDONE.out, hs]; rfl)
                  have hbs : bd = (decide (knd z.code = 5) && !(S.testBit kn)) := by
                    rw [HBD.out, bad_some hs, ← HZ.out, HKN.out]; rfl
                  have key : cls sn.toList yn = 5 → kn < 16 ∧ wL.cell? ⟨g, n * 17 + 1 + kn, none⟩ = some (.bool (S.testBit kn)) ∧ bd = !(S.testBit kn) := by
                    intro h5
                    rw [HN.out] at h5
                    have hk := HG.out.cell hlt (.inl (by rw [← HZ.out]; exact h5))
                    rw [← HZ.out, HKN.out] at hk
                    have hk' : kn < 16 := by omega
                    refine ⟨hk', ?_, by rw [hbs, h5]; simp⟩
                    have := OwnS.cell O.out (fun _ => scs_len _) (t := n) (j := kn + 1) (v := .bool (S.testBit kn)) hlt (by
                      rw [HDONE.out, hs]
                      show (bts S)[kn]? = _
                      exact bts_get S kn hk')
                    rw [show n * 17 + (kn + 1) = n * 17 + 1 + kn by omega] at this
                    exact this
                  have KEY := hide key
                  have hno : cls sn.toList yn ≠ 5 → bd = false := by
                    intro h5
                    rw [HN.out] at h5
                    rw [hbs, decide_eq_false h5]; rfl
                  have HNO := hide hno
                  clear hbs hs key hno o f
                  cases h1 : (sn.toList == [97, 61, 99, 101, 108, 108]) with
                  | true =>
                    obtain ⟨k16, c1, hb1⟩ := KEY.out ((cls_five _ _).2 (.inl (by simpa using h1)))
                    have hk0 : (0 : Int) ≤ (kn : Int) := by omega
                    have hk1 : (kn : Int) < 16 := by omega
                    have HB1 := hide hb1
                    clear hb1 KEY k16 HNO
                    go_quiet (fail)
                    go_wp2_with fail
                    go_meet
                    exact ⟨by rw [HB1.out], O.out, FF.out.drewN _⟩
                  | false =>
                    cases h2 : (sn.toList == [120, 61, 99, 101, 108, 108]) with
                    | true =>
                      obtain ⟨k16, c1, hb1⟩ := KEY.out ((cls_five _ _).2 (.inr (by simpa using h2)))
                      have hk0 : (0 : Int) ≤ (kn : Int) := by omega
                      have hk1 : (kn : Int) < 16 := by omega
                      have HB1 := hide hb1
                      clear hb1 KEY k16 HNO
                      go_quiet (fail)
                      go_wp2_with fail
                      go_meet
                      exact ⟨by rw [HB1.out], O.out, FF.out.drewN _⟩
                    | false =>
                      have hb1 := HNO.out (fun e => by
                        rcases (cls_five _ _).1 e with e1 | e1
                        · rw [e1] at h1; simp at h1
                        · rw [e1] at h2; simp at h2)
                      have HB1 := hide hb1
                      clear hb1 KEY HNO
                      go_quiet (fail)
                      go_wp2_with fail
                      go_meet
                      exact ⟨by rw [HB1.out], O.out, FF.out.drewN _⟩
              case rest =>
                obtain ⟨rfl, o5, f5⟩ := hcut
                rename World => wN
                have O5 := hide o5
                have F5 := hide f5
                clear o5 f5 O FF o f v0 v3
                cases bd with
                | true =>
                  have hu := uns_at hlt HBD.out.symm HBN.out
                  have HU := hide (HC.out.trans hu)
                  clear hu
                  go_wp2_with fail
                  go_ret2
                  exact ⟨ret_ii HU.out, F5.out⟩
                | false =>
                  go_wp2_with fail
                  go_roundw
                  case rel => exact ⟨n + 1, by omega, by go_num, O5.out, lt_succ_or HBN.out HBD.out.symm, F5.out⟩
                  case measure => simp [intOf]; omega
            · have hu := uns_no (l := l) (fun j hj => HBN.out j (by omega))
              have HU := hide (HC.out.trans hu)
              clear hu
              go_wp2_with fail
              go_ret2
              exact ⟨ret_ii HU.out, FF.out⟩
end Go.Proofs.YtjgcfffepkmojaaGreat
