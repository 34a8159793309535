import Derived.Test.YtjgcfffepkmojaaKStr
import Derived.BigQuiet
namespace Go.Proofs.Ytjgcfffepkmojaa
open Go.RowKit
set_option linter.unusedVariables false

/-! ### The strictest of any verdicts -/
theorem info_bytes' : (Try.prog.info? 59).map (fun i => (i.zero, i.size, i.bytes)) = some (some (.slice none 0 0), 1, 24) := by kernel_rfl
def pgs (L : List Int) : List Prg := L.map (fun v => ⟨none, 0, R v⟩)
theorem jdgN_pre {ls ms : List Prg} {r : ByteArray} {n : Nat} (h : ∀ j, j < n → (ls[j]?).map Prg.l = (ms[j]?).map Prg.l) : jdgN ls r n = jdgN ms r n := by
  induction n with
  | zero => rfl
  | succ n ih =>
    have ih' := ih (fun j hj => h j (by omega))
    have hn := h n (by omega)
    show (match ls[n]? with | some p => jst (jdgN ls r n) n (ver p.l r) | none => jdgN ls r n) = (match ms[n]? with | some p => jst (jdgN ms r n) n (ver p.l r) | none => jdgN ms r n)
    rw [ih']
    cases hl : ls[n]? with
    | none =>
      rw [hl] at hn
      cases hm : ms[n]? with
      | none => rfl
      | some q => rw [hm] at hn; cases hn
    | some p =>
      rw [hl] at hn
      cases hm : ms[n]? with
      | none => rw [hm] at hn; cases hn
      | some q =>
        rw [hm] at hn
        simp only [Option.map_some, Option.some.injEq] at hn
        show jst (jdgN ms r n) n (ver p.l r) = jst (jdgN ms r n) n (ver q.l r)
        rw [hn]
def bst (L : List Int) (r : ByteArray) (n : Nat) : Int × Int := jdgN (pgs L) r n
theorem bst_succ {L : List Int} {r : ByteArray} {n : Nat} (h : n < L.length) : bst L r (n + 1) = jst (bst L r n) n L[n] := by
  unfold bst
  rw [jdgN_succ (by simpa [pgs] using h)]
  simp [pgs, R_ver]
theorem bst_u {L : List Int} (h : ∀ v ∈ L, U32 v) (r : ByteArray) (n : Nat) : U32 (bst L r n).1 := jdgN_u _ (fun q hq => by
  unfold pgs at hq
  obtain ⟨v, hv, rfl⟩ := List.mem_map.1 hq
  exact R_good (h v hv)) r n
/-- Judged of the first n. -/
theorem bst_jdg {L : List Int} {qs : List Prg} {r : ByteArray} {n : Nat} (hn : n ≤ L.length) (h : qs.map Prg.l = (L.take n).map R) : jdgN qs r qs.length = bst L r n := by
  have hl : qs.length = n := by have := congrArg List.length h; simp at this; omega
  rw [hl]
  unfold bst
  refine jdgN_pre (fun j hj => ?_)
  rw [← List.getElem?_map, h, ← List.getElem?_map]
  simp only [pgs, List.map_map, List.getElem?_map, List.getElem?_take_of_lt hj]
  rfl
theorem tot_R {qs : List Prg} {vs : List Int} (h : qs.map Prg.l = vs.map R) : tot qs = vs.length := by
  unfold tot
  have : qs.map (fun p => p.l.length) = (qs.map Prg.l).map List.length := by simp
  rw [this, h]
  clear h this
  induction vs with
  | nil => rfl
  | cons v vs ih =>
    rw [List.map_cons, List.map_cons, List.sum_cons, ih, List.length_cons]
    show 1 + vs.length = vs.length + 1
    omega
def allR (ss : List ByteArray) : Prop := ∀ s ∈ ss, ∃ v, U32 v ∧ s = rb v
theorem allR_F {ss : List ByteArray} (h : allR ss) : ∀ j, j < ss.length → insF ss j = false := fun j hj => by
  unfold insF
  obtain ⟨v, hv, e⟩ := h _ (List.getElem_mem hj)
  rw [List.getD_eq_getElem?_getD, List.getElem?_eq_getElem hj, Option.getD_some, e, rb_ok hv]
  rfl
theorem allR_sum {ss : List ByteArray} (h : allR ss) : (ss.map (fun s => s.size / 8)).sum = ss.length := by
  induction ss with
  | nil => rfl
  | cons s ss ih =>
    obtain ⟨v, _, e⟩ := h s (List.mem_cons_self ..)
    rw [List.map_cons, List.sum_cons, ih (fun x hx => h x (List.mem_cons_of_mem _ hx)), e, rb_size]
    simp
    omega
theorem allR_dec {ss : List ByteArray} {vs : List Int} (h : ∀ v ∈ vs, U32 v) (e : ss = vs.map rb) : ss.map (fun s => decL s (s.size / 8)) = vs.map R := by
  subst e
  rw [List.map_map]
  refine List.map_congr_left (fun v hv => ?_)
  exact rb_dec (h v hv)
theorem ins_ok {qs : List Prg} {ss : List ByteArray} (h : allR ss) (h8 : qs.length + ss.length ≤ 8) (ht : tot qs ≤ 8) : insA qs ss = (0, 0) := by
  rw [insA_none (allR_F h), allR_sum h, if_neg (by omega)]
theorem ins_full {ss : List ByteArray} (h : allR ss) (h9 : 8 < ss.length) : insA [] ss = (12, 0) := by
  rw [insA_none (allR_F h), if_pos (.inl (by simpa using h9))]
theorem ins_bad {ss : List ByteArray} (h : allR ss) (h9 : 3 < ss.length) : insA [] (ss.set 3 ⟨#[]⟩) = (1, 3) := by
  have hz : okP ((ss.set 3 ⟨#[]⟩)[3]'(by simpa using h9)) = 1 := by rw [List.getElem_set_self]; rfl
  rw [insA_bad (n := 3) (by simpa using h9) (fun j hj => by
    have := allR_F h j (by omega)
    unfold insF at this ⊢
    rw [List.getD_eq_getElem?_getD, List.getElem?_set_ne (by omega), ← List.getD_eq_getElem?_getD]
    exact this) (by rw [hz]; decide), hz]
  rfl
theorem rb_sz {ss : List ByteArray} (h : allR ss) : ∀ s ∈ ss, s.size ≤ 100000000 := fun s hs => by
  obtain ⟨v, _, e⟩ := h s hs
  rw [e, rb_size]; decide
theorem jdgA_64 {ls : List Prg} {r : ByteArray} (h : r.size = 64) : jdgA ls r = ((jdgN ls r ls.length).1, (jdgN ls r ls.length).2, 0) := by unfold jdgA; rw [if_pos h]
/-- The fourth is nothing now. -/
theorem ST.nil3 {w wr : World} {g : Nat} {ca : Nat} {bs : List Bv} {gs : Nat} {qs : List Prg} (h : ST w wr (some ⟨g, 0, none⟩) ca bs gs qs) (h3 : 3 < bs.length) : BL (wr.setCell ⟨g, 3, none⟩ (.slice none 0 0)) (some ⟨g, 0, none⟩) ((bs.map Bv.s).set 3 ⟨#[]⟩) := by
  obtain ⟨cur, ho, hblk⟩ : ∃ cur : Array Value, True ∧ wr.heap[g]? = some (.cells cur 59 (0, 0)) := by
    rcases h.own.2 with ⟨hv, _⟩ | ⟨g', cap', cur, hv, _, hb, _⟩
    · cases hv
    · simp only [Value.slice.injEq, Option.some.injEq, Addr.mk.injEq] at hv
      obtain ⟨⟨rfl, _⟩, _⟩ := hv
      exact ⟨_, trivial, hb⟩
  have hs1 := own_set1 (A := (bs.map Bv.v).take 3) (B := (bs.map Bv.v).drop 3) (by rw [List.take_append_drop]; exact h.own) (by simp; omega) (p := 3) (by simp; omega) (.slice none 0 0)
  refine ⟨(bs.map Bv.v).set 3 (.slice none 0 0), ?_, by simp, fun j s v hs hv => ?_⟩
  · refine own_view hs1 ?_
    rw [List.take_of_length_le (by simp; omega)]
    rw [List.set_eq_take_append_cons_drop, if_pos (by simpa using h3)]
    simp [List.drop_drop]
  · by_cases hj : j = 3
    · subst hj
      rw [List.getElem?_set_self (by simpa using h3)] at hs hv
      simp only [Option.some.injEq] at hs hv
      subst hs hv
      exact ⟨none, 0, rfl, Nat.le_refl 0, .inl rfl⟩
    · rw [List.getElem?_set_ne (by omega)] at hs hv
      rw [List.getElem?_map] at hs hv
      cases hb : bs[j]? with
      | none => rw [hb] at hs; cases hs
      | some b =>
        rw [hb] at hs hv
        simp only [Option.map_some, Option.some.injEq] at hs hv
        subst hs hv
        have ho' : b.own (wr.setCell ⟨g, 3, none⟩ (.slice none 0 0)) := own_put (h.el b (List.mem_of_getElem? hb)) hblk (by decide)
        exact ⟨b.a, b.c, rfl, own_le ho', own_view ho' (by simp)⟩
#print axioms ST.nil3

theorem frk {w w' : World} {a : Addr} {v : Value} (f : Fr nob w w') (h : w.cell? a = some v) : w'.cell? a = some v := by
  rw [World.cell?_of_block (f.block a.block (World.block_lt_of_cell? w _ h) (fun x => x))]; exact h
def u32s (L : List Int) : List Value := L.map (fun v => Value.int .u32 v)
set_option maxRecDepth 100000 in
set_option maxHeartbeats 8000000 in
theorem strictest_any (w : World) (ao : Option Addr) (cap : Nat) (l : List Int) (hv : View w ao (u32s l)) (hu : ∀ v ∈ l, U32 v) (hc : l.length ≤ cap) (hl : l.length ≤ 9223372036854775807) (once : Bool) :
    Calls Try.prog 9 #[.slice ao l.length cap, .bool once] w fun e w' => e = .returned (.bool true) ∧ Fr nob w w' := by
  obtain ⟨L, hL⟩ : ∃ L, L = l.take 8 := ⟨_, rfl⟩
  have hL8 : L.length ≤ 8 := by rw [hL, List.length_take]; omega
  have hLl : L.length = min 8 l.length := by rw [hL, List.length_take]
  have hvL : View w ao (u32s L) := by
    rcases hv with h | ⟨b, off, e, hs⟩
    · left
      have : l = [] := by simpa [u32s] using h
      rw [hL, this]; rfl
    · right
      refine ⟨b, off, e, fun j v hj => hs j v ?_⟩
      rw [hL] at hj
      unfold u32s at hj ⊢
      rw [List.map_take, List.getElem?_take] at hj
      split at hj
      · exact hj
      · cases hj
  have huL : ∀ v ∈ L, U32 v := fun v hv => hu v (by rw [hL] at hv; exact List.mem_of_mem_take hv)
  have HV := hide hvL
  have HU := hide huL
  obtain ⟨rec, hrec⟩ : ∃ rec, rec = recB 1 2 q0 := ⟨_, rfl⟩
  have h64 : rec.size = 64 := by rw [hrec]; exact rec_size 1 2 q0
  have HREC := hide hrec
  have H64 := hide h64
  clear hv hu hvL huL hrec h64 hL
  go_enter Try.func9, Try.ntmps9
  go_wp2_with fail
  refine (new_any w).mono ?_
  rintro e w1 ⟨rfl, b1, f1⟩
  obtain ⟨gs, hgs⟩ : ∃ gs, gs = w.heap.size := ⟨_, rfl⟩
  have hwg : w.heap.size ≤ gs := by omega
  rw [← hgs] at b1 ⊢
  have SP1 : Hid (SP w1 gs 77 []) := ⟨b1, fun q hq => by cases hq⟩
  have F1 := hide f1
  clear b1 f1 hgs
  go_wp2_with fail
  refine (record_any w1 1 2 ⟨by decide, by decide⟩ ⟨by decide, by decide⟩ q0 q0_u64).mono ?_
  rintro e w2 ⟨rfl, f2⟩
  rw [← HREC.out]
  have SP2 := hide (sp_fr SP1.out f2 (fun h => h) (fun _ _ _ _ h => h))
  have F2 := hide (F1.out.trans f2)
  clear f2 SP1 F1
  have HJ := hide (sJudge_any w2 gs 77 [] SP2.out (by decide) rec (by rw [H64.out]; decide))
  rw [jdg_nil rec H64.out] at HJ
  go_wp2_with fail
  refine HJ.out.mono ?_
  rintro e w3 ⟨rfl, f3⟩
  have SP3 := hide (sp_fr SP2.out f3 (fun h => h) (fun _ _ _ _ h => h))
  have F3 := hide (F2.out.trans f3)
  clear f3 SP2 F2 HJ
  go_upto_if 57 with fail
  go_cut [0] (fun y wx => y = .slice ao L.length cap ∧ wx = w3)
  case first =>
    by_cases h8 : 8 < l.length
    · have e8 : (8 : Int) < (l.length : Int) := by omega
      have e9 : L.length = 8 := by omega
      have hc8 : 8 ≤ cap := by omega
      have hc9 : (8 : Int) ≤ (cap : Int) := by omega
      go_wp2_with fail
      go_meet
      exact ⟨by rw [e9], rfl⟩
    · have e8 : ¬ (8 : Int) < (l.length : Int) := by omega
      have e9 : L.length = l.length := by omega
      go_wp2_with fail
      go_meet
      exact ⟨by rw [e9], rfl⟩
  case rest =>
    obtain ⟨rfl, rfl⟩ := hcut
    clear hc hl hLl
    obtain ⟨k0, hk0, hk1, hk2, hk3⟩ := info_parts info_bytes'
    have ST0 : Hid (ST w wc none 0 [] gs []) := ⟨World.ownsRow_nil _ _ _ _, (fun b hb => by cases hb), (fun x hx => by simp [bk, Value.ownBlock] at hx), SP3.out, hwg, F3.out⟩
    clear SP3 F3
    go_wp2_with fail
    go_loopg [10, 11, 12, 13] L.length (fun k a b y i wr => ∃ (n : Nat) (aa : Option Addr) (ca : Nat) (bs : List Bv) (qs : List Prg), k + n = L.length ∧ i = .int .i64 n ∧ a = .slice aa n ca ∧ b = .int .u32 (bst L rec n).1 ∧ y = .int .i64 (bst L rec n).2 ∧ bs.length = n ∧
      bs.map Bv.s = (L.take n).map rb ∧ qs.map Prg.l = (if once then [] else (L.take n).map R) ∧ ST w wr aa ca bs gs qs)
    case atStart => exact ⟨0, none, 0, [], [], by omega, rfl, rfl, rfl, rfl, rfl, by simp, by cases once <;> simp, ST0.out⟩
    case round =>
      clear ST0
      obtain ⟨n, aa, ca, bs, qs, hkn, rfl, rfl, rfl, rfl, hbl, hbm, hqm, S⟩ := hrel
      subst hbl
      have hbd : -1 ≤ (bst L rec bs.length).2 ∧ (bst L rec bs.length).2 ≤ bs.length := jdgN_bd _ _ _
      have hbu : U32 (bst L rec bs.length).1 := bst_u HU.out rec _
      have HS := hide S
      have HBM := hide hbm
      have HQM := hide hqm
      by_cases hlt : bs.length < L.length
      · obtain ⟨v, hv⟩ : ∃ v, v = L[bs.length] := ⟨_, rfl⟩
        have hvu : U32 v := by rw [hv]; exact HU.out _ (List.getElem_mem hlt)
        obtain ⟨b0, off, rfl, hseg⟩ := HV.out.some (by intro e; have : (u32s L).length = 0 := by rw [e]; rfl
                                                       simp [u32s] at this; rw [this] at hlt; cases hlt)
        have hcv : w.cell? ⟨b0, off + bs.length, none⟩ = some (.int .u32 v) := hseg _ _ (by unfold u32s; rw [List.getElem?_map, List.getElem?_eq_getElem hlt, hv]; rfl)
        have HCV := hide hcv
        have c1 := frk S.f hcv
        have hnx := bst_succ (r := rec) hlt
        rw [← hv] at hnx
        obtain ⟨s1, hs1⟩ : ∃ s, s = (bst L rec bs.length).1 := ⟨_, rfl⟩
        obtain ⟨s2, hs2⟩ : ∃ s, s = (bst L rec bs.length).2 := ⟨_, rfl⟩
        have hbs : bst L rec bs.length = (s1, s2) := by rw [hs1, hs2]
        rw [hbs] at hnx
        rw [← hs2] at hbd
        rw [← hs1] at hbu
        rw [← hs1, ← hs2]
        obtain ⟨x1, x2⟩ := hbd
        obtain ⟨t1, ht1⟩ : ∃ t, t = (bst L rec (bs.length + 1)).1 := ⟨_, rfl⟩
        obtain ⟨t2, ht2⟩ : ∃ t, t = (bst L rec (bs.length + 1)).2 := ⟨_, rfl⟩
        have hbt : bst L rec (bs.length + 1) = (t1, t2) := by rw [ht1, ht2]
        have HBT := hide hbt
        rw [hbt] at hnx
        unfold jst at hnx
        obtain ⟨C, hC⟩ : ∃ C : Bool, C = decide (s2 < 0 ∨ rnk v ≤ rnk s1) := ⟨_, rfl⟩
        have HC : Hid (((t1, t2) : Int × Int) = if C = true then (v, (bs.length : Int)) else (s1, s2)) := by
          show _ = _
          rw [hC, hnx]
          by_cases h : s2 < 0 ∨ rnk v ≤ rnk s1
          · rw [if_pos h, if_pos (by simpa using h)]
          · rw [if_neg h, if_neg (by simpa using h)]
        have HCD := hide hC
        have HLV := hide hv
        clear hv hseg hcv hnx hs1 hs2 hbs ht1 ht2 hbt hC S hbm hqm
        have hlti : (bs.length : Int) < (L.length : Int) := by omega
        go_wp2_with fail
        refine (kret_any wr v).mono ?_
        rintro e w1 ⟨rfl, hvw, f1⟩
        have S1 := hide (HS.out.fr f1)
        have HE := hide (eret_any w1 v hvu _ hvw)
        clear hvw f1 c1
        go_wp2_with fail
        refine HE.out.mono ?_
        rintro e w2 ⟨b, rfl, hbe, hbo, f2⟩
        have S2 := hide (S1.out.fr f2)
        have HBE := hide hbe
        have HBO := hide hbo
        have OWN := hide (World.ownsRow.alloc S2.out.own (.cells #[.slice b.a b.s.size b.c] 59))
        clear f2 S1 HE hbe hbo
        go_upto_region 18 with (at_builtin; refine wpList_append_keep _ rfl _ _ 67 rfl 59 k0 _ 1 24 Try.underlying67 hk0 hk1 hk2 hk3 rfl (by decide) aa bs.length ca (bs.map Bv.v) rfl OWN.out ⟨w2.heap.size, 0, none⟩ 1 1 [.slice b.a b.s.size b.c] rfl rfl ?c1 ?c2 (by decide) ?c3 ?c4 (w2.heap.size + 1) (World.size_alloc _ _) ?_)
        case c1 => exact World.news_of_block (heap_alloc_new w2 _)
        case c2 => intro u hu; simp at hu; subst hu; rfl
        case c3 => unfold maxLen; omega
        case c4 => omega
        intro g4 c4 w4 o4 _ f4 hat
        have S4 := hide (S2.out.push b HBO.out _ o4 f4 hat)
        have c4 := frk S4.out.f HCV.out
        clear o4 f4 hat S2 OWN HBO
        go_wp2_with fail
        refine (strict_any w4 v hvu).mono ?_
        rintro e w5 ⟨rfl, f5⟩
        have S5 := hide (S4.out.fr f5)
        clear f5 S4 c4
        go_wp2_with fail
        refine (strict_any w5 s1 hbu).mono ?_
        rintro e w6 ⟨rfl, f6⟩
        have S6 := hide (S5.out.fr f6)
        have c6 := frk S6.out.f HCV.out
        clear f6 S5
        have x3 := rnk_bd v
        have x4 := rnk_bd s1
        obtain ⟨r1, hr1⟩ : ∃ z, z = rnk v := ⟨_, rfl⟩
        obtain ⟨r2, hr2⟩ : ∃ z, z = rnk s1 := ⟨_, rfl⟩
        rw [← hr1, ← hr2] at HCD
        rw [← hr1]
        rw [← hr2]
        clear hr1 hr2 x3 x4
        go_upto_region 20 with fail
        go_cut [89] (fun y wx => y = .bool C ∧ wx = w6)
        case first =>
          by_cases q : s2 < 0
          · have e1 : decide (s2 < 0) = true := by simpa using q
            have e2 : C = true := by rw [HCD.out]; simp [q]
            go_wp2_with fail
            go_meet
            exact ⟨by rw [e2], rfl⟩
          · have e1 : decide (s2 < 0) = false := by simpa using q
            have e2 : C = decide (r1 ≤ r2) := by rw [HCD.out]; simp [q]
            go_wp2_with fail
            go_meet
            exact ⟨by rw [e2], rfl⟩
        case rest =>
          obtain ⟨rfl, hwx⟩ := hcut
          have hwx' := hwx.symm
          subst hwx'
          go_upto_if 89 with fail
          go_cut [11, 12] (fun y z wx => y = .int .u32 t1 ∧ z = .int .i64 t2 ∧ wx = w6)
          case first =>
            cases C with
            | true =>
              have e1 : t1 = v ∧ t2 = (bs.length : Int) := by have := HC.out; rw [if_pos rfl, Prod.mk.injEq] at this; exact this
              go_wp2_with fail
              go_meet
              exact ⟨by rw [e1.1], by rw [e1.2], rfl⟩
            | false =>
              have e1 : t1 = s1 ∧ t2 = s2 := by have := HC.out; rw [if_neg (by decide), Prod.mk.injEq] at this; exact this
              go_wp2_with fail
              go_meet
              exact ⟨by rw [e1.1], by rw [e1.2], rfl⟩
          case rest =>
            obtain ⟨rfl, rfl, hwx⟩ := hcut
            have hwx' := hwx.symm
            subst hwx'
            have hbm' : (bs ++ [b]).map Bv.s = (L.take (bs ++ [b]).length).map rb := by
              rw [List.map_append, HBM.out, List.length_append, List.length_singleton, List.take_succ_eq_append_getElem hlt, List.map_append, ← HLV.out]
              simp [HBE.out]
            have hlb : (bs ++ [b]).length = bs.length + 1 := by simp
            have HBM' := hide hbm'
            have HLB := hide hlb
            clear hwx hbm' hlb HC HCD c6 hvu hbu
            cases once with
            | true =>
              go_wp2_with fail
              go_roundg (L.length - (bs.length + 1))
              case measure => omega
              case rel => exact ⟨bs.length + 1, some ⟨g4, 0, none⟩, c4, bs ++ [b], qs, by omega, by go_num, rfl, by rw [HBT.out], by rw [HBT.out], HLB.out, by rw [← HLB.out]; exact HBM'.out, by have := HQM.out; simpa using this, S6.out⟩
            | false =>
              have hqm : qs.map Prg.l = (L.take bs.length).map R := by have := HQM.out; simpa using this
              have hql : qs.length = bs.length := by have := congrArg List.length hqm; simp at this; omega
              have hvu : U32 v := by rw [HLV.out]; exact HU.out _ (List.getElem_mem hlt)
              have hob : b.own w6 := S6.out.el b (by simp)
              have BL7 := hide (bl_one w6 59 b.s b.a b.c (own_le hob) (own_view hob (by simp)))
              have S7 : Hid (ST w (w6.alloc (.cells #[.slice b.a b.s.size b.c] 59)) (some ⟨g4, 0, none⟩) c4 (bs ++ [b]) gs qs) := S6.out.fr ((Fr.refl _ w6).alloc _)
              have haR : allR [b.s] := fun s hs => by simp only [List.mem_singleton] at hs; rw [hs]; exact ⟨v, hvu, HBE.out⟩
              have htq : tot qs ≤ 8 := by rw [tot_R hqm, List.length_take]; omega
              have hi0 : insA qs [b.s] = (0, 0) := ins_ok haR (by simp; omega) htq
              have HI := hide (sInstall_any _ gs 77 qs S7.out.sp (by decide) (by omega) (some ⟨w6.heap.size, 0, none⟩) 1 [b.s] BL7.out (by simp) (rb_sz haR))
              rw [hi0] at HI
              have HVU := hide hvu
              have HQ2 := hide hqm
              clear hob haR htq hi0 hqm BL7 hvu S6 HQM
              go_wp2_with fail
              refine HI.out.mono ?_
              rintro e w8 ⟨rfl, _, heq⟩
              obtain ⟨rs, sp8, hm8, _, f8⟩ := heq (by first | rfl | trivial)
              have hm9 : (qs ++ rs).map Prg.l = (L.take (bs.length + 1)).map R := by
                rw [List.map_append, hm8, HQ2.out, List.take_succ_eq_append_getElem hlt, List.map_append, ← HLV.out]
                simp [HBE.out, rb_dec HVU.out]
              have hl9 : (qs ++ rs).length ≤ 8 := by have := congrArg List.length hm9; simp at this; simp; omega
              have S8 := hide (S7.out.inst sp8 f8)
              have HJ := hide (sJudge_any w8 gs 77 (qs ++ rs) S8.out.sp hl9 rec (by rw [H64.out]; decide))
              rw [jdgA_64 H64.out, bst_jdg (by omega) hm9, HBT.out] at HJ
              have HM9 := hide hm9
              clear heq sp8 hm8 f8 hm9 S7 HI
              go_wp2_with fail
              refine HJ.out.mono ?_
              rintro e w9 ⟨rfl, f9⟩
              have S9 := hide (S8.out.fr f9)
              clear f9 S8 HJ
              go_wp2_with fail
              go_roundg (L.length - (bs.length + 1))
              case measure => omega
              case rel => exact ⟨bs.length + 1, some ⟨g4, 0, none⟩, c4, bs ++ [b], qs ++ rs, by omega, by go_num, rfl, by rw [HBT.out], by rw [HBT.out], HLB.out, by rw [← HLB.out]; exact HBM'.out, by have := HM9.out; simpa using this, S9.out⟩
      · have hnl : bs.length = L.length := by omega
        have htk : L.take bs.length = L := List.take_of_length_le (by omega)
        have hbm2 : bs.map Bv.s = L.map rb := by rw [hbm, htk]
        have haR : allR (bs.map Bv.s) := fun s hs => by
          rw [hbm2] at hs
          obtain ⟨v, hv, rfl⟩ := List.mem_map.1 hs
          exact ⟨v, HU.out v hv, rfl⟩
        have hdc := allR_dec HU.out hbm2
        have HAR := hide haR
        have HDC := hide hdc
        rw [htk] at HQM
        obtain ⟨t1, ht1⟩ : ∃ t, t = (bst L rec bs.length).1 := ⟨_, rfl⟩
        obtain ⟨t2, ht2⟩ : ∃ t, t = (bst L rec bs.length).2 := ⟨_, rfl⟩
        have hbt : bst L rec L.length = (t1, t2) := by rw [ht1, ht2, hnl]
        have HBT := hide hbt
        rw [← ht1, ← ht2]
        have HBL : Hid (bs.length ≤ 8) := by show bs.length ≤ 8; omega
        have hge : ¬ (bs.length : Int) < (L.length : Int) := by omega
        clear hbd hbu hbm hqm S htk hbm2 haR hdc ht1 ht2 hbt HBM hnl hkn
        go_upto_if 131 with fail
        go_cut [] (fun wx => ∃ qs', qs'.map Prg.l = L.map R ∧ ST w wx aa ca bs gs qs')
        case first =>
          cases once with
          | false =>
            go_wp2_with fail
            go_meet
            exact ⟨qs, by have := HQM.out; simpa using this, HS.out⟩
          | true =>
            have hqn : qs = [] := by have := HQM.out; simpa using this
            subst hqn
            have hi0 : insA [] (bs.map Bv.s) = (0, 0) := ins_ok HAR.out (by simp; have := HBL.out; omega) (by decide)
            have HI := hide (sInstall_any wr gs 77 [] HS.out.sp (by decide) (by decide) aa ca (bs.map Bv.s) HS.out.bl (by have := HBL.out; simp; omega) (rb_sz HAR.out))
            rw [hi0, List.length_map] at HI
            clear hi0
            go_wp2_with fail
            refine HI.out.mono ?_
            rintro e w2 ⟨rfl, _, heq⟩
            obtain ⟨rs, sp8, hm8, _, f8⟩ := heq (by first | rfl | trivial)
            have S8 := hide (HS.out.inst sp8 f8)
            have HM8 := hide hm8
            clear heq sp8 hm8 f8 HI
            go_wp2_with fail
            go_meet
            exact ⟨[] ++ rs, by rw [List.nil_append, HM8.out, HDC.out], S8.out⟩
        case rest =>
          obtain ⟨qs2, hq2, S2⟩ := hcut
          have HS2 := hide S2
          have HQ2 := hide hq2
          clear S2 hq2 HS HQM
          go_wp2_with fail
          go_loopg [10] (9 - bs.length) (fun k a wr => ∃ (aa : Option Addr) (ca : Nat) (bs : List Bv) (qs : List Prg), k + bs.length = 9 ∧ a = .slice aa bs.length ca ∧ allR (bs.map Bv.s) ∧ qs.map Prg.l = L.map R ∧ ST w wr aa ca bs gs qs)
          case atStart => exact ⟨aa, ca, bs, qs2, by have := HBL.out; omega, rfl, HAR.out, HQ2.out, HS2.out⟩
          case round =>
            clear HS2 HQ2 HAR HDC HBL hge hlt
            obtain ⟨aa, ca, bs, qs, hk9, rfl, haR, hqs, S⟩ := hrel
            have HAR := hide haR
            have HQS := hide hqs
            have HS := hide S
            clear haR hqs S
            by_cases h8 : bs.length ≤ 8
            · have h8i : (bs.length : Int) ≤ 8 := by omega
              have hku : U32 2147483648 := ⟨by decide, by decide⟩
              go_wp2_with fail
              refine (kret_any _ 2147483648).mono ?_
              rintro e w3 ⟨rfl, hvw, f1⟩
              have S3 := hide (HS.out.fr f1)
              have HE := hide (eret_any w3 2147483648 hku _ hvw)
              clear hvw f1
              go_wp2_with fail
              refine HE.out.mono ?_
              rintro e w4 ⟨b, rfl, hbe, hbo, f2⟩
              have S4 := hide (S3.out.fr f2)
              have HBE := hide hbe
              have HBO := hide hbo
              have OWN := hide (World.ownsRow.alloc S4.out.own (.cells #[.slice b.a b.s.size b.c] 59))
              clear f2 S3 HE hbe hbo
              go_wp2_with (at_builtin; refine wpList_append_keep _ rfl _ _ 67 rfl 59 k0 _ 1 24 Try.underlying67 hk0 hk1 hk2 hk3 rfl (by decide) aa bs.length ca (bs.map Bv.v) rfl OWN.out ⟨w4.heap.size, 0, none⟩ 1 1 [.slice b.a b.s.size b.c] rfl rfl ?d1 ?d2 (by decide) ?d3 ?d4 (w4.heap.size + 1) (World.size_alloc _ _) ?_)
              case d1 => exact World.news_of_block (heap_alloc_new w4 _)
              case d2 => intro u hu; simp at hu; subst hu; rfl
              case d3 => unfold maxLen; omega
              case d4 => omega
              intro g5 c5 w5 o5 _ f5 hat
              have S5 := hide (S4.out.push b HBO.out _ o5 f5 hat)
              clear o5 f5 hat S4 OWN HBO
              go_wp2_with fail
              go_roundg (8 - bs.length)
              case measure => omega
              case rel => exact ⟨some ⟨g5, 0, none⟩, c5, bs ++ [b], qs, by simp; omega, by simp, fun s hs => by
                rw [List.map_append] at hs
                rcases List.mem_append.1 hs with h | h
                · exact HAR.out s h
                · simp only [List.map_cons, List.map_nil, List.mem_singleton] at h
                  exact ⟨2147483648, hku, by rw [h, HBE.out]⟩, HQS.out, S5.out⟩
            · have h9 : bs.length = 9 := by omega
              have h9i : ¬ (bs.length : Int) ≤ 8 := by omega
              obtain ⟨ga, hga⟩ : ∃ ga, aa = some ⟨ga, 0, none⟩ := by
                rcases HS.out.own.2 with ⟨hv, _⟩ | ⟨g', cap', cur, hv, _⟩
                · simp only [Value.slice.injEq] at hv; omega
                · simp only [Value.slice.injEq] at hv; exact ⟨g', hv.1⟩
              subst hga
              have hl2 : qs.length ≤ 8 := by have := congrArg List.length HQS.out; simp at this; omega
              have HL2 := hide hl2
              have H9 := hide h9
              clear hl2
              go_wp2_with fail
              refine (new_any _).mono ?_
              rintro e w3 ⟨rfl, b3, f3⟩
              generalize wr.heap.size = gt at b3 ⊢
              have T3 : Hid (SP w3 gt 77 []) := ⟨b3, fun q hq => by cases hq⟩
              have S3 := hide (HS.out.fr f3)
              clear b3 f3 HS
              have HI := hide (sInstall_any w3 gt 77 [] T3.out (by decide) (by decide) (some ⟨ga, 0, none⟩) ca (bs.map Bv.s) S3.out.bl (by rw [List.length_map, H9.out]; decide) (rb_sz HAR.out))
              rw [ins_full HAR.out (by rw [List.length_map, H9.out]; decide), List.length_map, H9.out] at HI
              go_wp2_with fail
              refine HI.out.mono ?_
              rintro e w4 ⟨rfl, hne4, _⟩
              have f4 := hne4 (by decide)
              have T4 : Hid (SP w4 gt 77 []) := sp_fr T3.out f4 (fun h => h) (fun _ _ _ _ h => h)
              have S4 := hide (S3.out.fr f4)
              clear hne4 f4 T3 S3 HI
              have HJ := hide (sJudge_any w4 gt 77 [] T4.out (by decide) rec (by rw [H64.out]; decide))
              rw [jdg_nil rec H64.out] at HJ
              go_wp2_with fail
              refine HJ.out.mono ?_
              rintro e w5 ⟨rfl, f5⟩
              have T5 : Hid (SP w5 gt 77 []) := sp_fr T4.out f5 (fun h => h) (fun _ _ _ _ h => h)
              have S5 := hide (S4.out.fr f5)
              have c3 : w5.cell? ⟨ga, 3, none⟩ = some (.slice (bs[3]'(by omega)).a (bs[3]'(by omega)).s.size (bs[3]'(by omega)).c) := own_get S5.out.own (by rw [List.getElem?_map, List.getElem?_eq_getElem (by omega)]; rfl)
              have z3 : ∀ z, w5.frozen? ⟨ga, z, none⟩ = false := fun z => S5.out.own.frozenAt z
              generalize (bs[3]'(by omega)).a = y1 at c3
              generalize (bs[3]'(by omega)).s.size = y2 at c3
              generalize (bs[3]'(by omega)).c = y3 at c3
              clear f5 T4 S4 HJ
              obtain ⟨w6, hw6⟩ : ∃ w6, w6 = w5.setCell ⟨ga, 3, none⟩ (.slice none 0 0) := ⟨_, rfl⟩
              have hga5 : w.heap.size ≤ ga := S5.out.newA ga (by simp [bk, Value.ownBlock])
              have n1 : gt ≠ ga := fun e => own_ne S5.out.own T5.out.blk (by decide) (by rw [e]; simp [bk, Value.ownBlock])
              have n2 : gs ≠ ga := fun e => own_ne S5.out.own S5.out.sp.blk (by decide) (by rw [e]; simp [bk, Value.ownBlock])
              have T6 : Hid (SP w6 gt 77 []) := ⟨by rw [hw6]; exact blk_put T5.out.blk n1, fun q hq => by cases hq⟩
              have Q6 : Hid (SP w6 gs 77 qs) := by
                rw [hw6]
                exact sp_fr S5.out.sp (fr_set w5 ga 3 _) n2 (fun q hq x hx e => by
                  have e' : x = ga := e
                  rw [e'] at hx
                  exact own_apart (S5.out.sp.p q hq).1 S5.out.own (by decide) ga hx (by simp [bk, Value.ownBlock]))
              have B6 : Hid (BL w6 (some ⟨ga, 0, none⟩) ((bs.map Bv.s).set 3 ⟨#[]⟩)) := by rw [hw6]; exact S5.out.nil3 (by omega)
              have F6 : Hid (Fr nob w w6) := by rw [hw6]; exact S5.out.f.setCell (p := ⟨ga, 3, none⟩) (fun h => absurd h (Nat.not_lt.2 hga5)) _
              have HI := hide (sInstall_any w6 gt 77 [] T6.out (by decide) (by decide) (some ⟨ga, 0, none⟩) ca ((bs.map Bv.s).set 3 ⟨#[]⟩) B6.out (by rw [List.length_set, List.length_map, H9.out]; decide) (fun s hs => by
                rcases List.mem_or_eq_of_mem_set hs with h | h
                · exact rb_sz HAR.out s h
                · rw [h]; decide))
              rw [ins_bad HAR.out (by rw [List.length_map, H9.out]; decide), List.length_set, List.length_map, H9.out] at HI
              have HW6 := hide hw6
              clear hga5 n1 n2 hw6 T5 S5 B6 T6
              go_upto_region 41 with fail
              rw [← HW6.out]
              clear c3 z3 HW6
              go_wp2_with fail
              refine HI.out.mono ?_
              rintro e w7 ⟨rfl, hne7, _⟩
              have f7 := hne7 (by decide)
              have Q7 := hide (sp_fr Q6.out f7 (fun h => h) (fun _ _ _ _ h => h))
              have F7 := hide (F6.out.trans f7)
              clear hne7 f7 Q6 F6 HI
              have HJ := hide (sJudge_any w7 gs 77 qs Q7.out HL2.out rec (by rw [H64.out]; decide))
              rw [jdgA_64 H64.out, bst_jdg (L := L) (n := L.length) (Nat.le_refl _) (by rw [List.take_length]; exact HQS.out), HBT.out] at HJ
              go_wp2_with fail
              refine HJ.out.mono ?_
              rintro e w8 ⟨rfl, f8⟩
              have F8 := hide (F7.out.trans f8)
              clear f8 F7 HJ Q7
              go_wp2
              go_ret
              exact ⟨rfl, F8.out⟩
#print axioms strictest_any
end Go.Proofs.Ytjgcfffepkmojaa
