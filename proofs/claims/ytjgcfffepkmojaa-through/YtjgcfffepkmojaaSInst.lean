import Derived.Test.YtjgcfffepkmojaaSWalk
import Derived.Test.YtjgcfffepkmojaaPRun
namespace Go.Proofs.Ytjgcfffepkmojaa
open Go.RowKit
set_option linter.unusedVariables false

/-! ### A program that is read and checked -/
theorem ret_si {v : Value} {a b : Int} (h : a = b) : Ending.returned (.tuple #[v, .int .i64 a]) = .returned (.tuple #[v, .int .i64 b]) := by rw [h]
set_option maxRecDepth 100000 in
set_option maxHeartbeats 2000000 in
theorem prog_any (w : World) (ao : Option Addr) (cap : Nat) (s : ByteArray) (hv : View w ao (bcs s)) (hc : s.size ≤ cap) (hs : s.size ≤ 100000000) :
    Calls Try.prog 44 #[.slice ao s.size cap] w fun e w' => ∃ a n c, e = .returned (.tuple #[.slice a n c, .int .i64 (okP s)]) ∧
      (okP s = 0 → n = (decL s (s.size / 8)).length ∧ PO w' ⟨a, c, decL s (s.size / 8)⟩ ∧ (∀ x, bk (.slice a n c) x → w.heap.size ≤ x)) ∧ Fr nob w w' := by
  by_cases hbad : s.size % 8 ≠ 0 ∨ s.size = 0 ∨ 32768 < s.size
  · have hok : okP s = 1 := by unfold okP; rw [if_pos hbad]
    rw [hok]
    have HB := hide hbad
    clear hbad hok
    go_enter Try.func44, Try.ntmps44
    go_wp2_with fail
    refine (wDecode_bad _ ao s.size cap hs HB.out).mono ?_
    rintro e w1 ⟨rfl, rfl⟩
    go_wp2_with fail
    go_ret2
    exact ⟨none, 0, 0, rfl, (fun e => by cases e), Fr.refl _ _⟩
  · obtain ⟨m, hm⟩ : ∃ m, s.size = m * 8 := ⟨s.size / 8, by omega⟩
    have hm8 : s.size / 8 = m := by omega
    have hok : okP s = (chk (decL s m)).1 := by unfold okP; rw [if_neg hbad, hm8]
    have m0 : 0 < m := by omega
    have m1 : m ≤ 4096 := by omega
    rw [hm8]
    have hne : bcs s ≠ [] := by intro e; have := bcs_len s; rw [e] at this; simp at this; omega
    obtain ⟨b, off, rfl, hseg⟩ := hv.some hne
    have HD : Hid (Calls Try.prog 29 #[.slice (some ⟨b, off, none⟩) s.size cap] w fun e w' => e = .returned (.tuple #[.slice (some ⟨w.heap.size, 0, none⟩) m m, .int .i64 0]) ∧
      Own w' 32 4 (some ⟨w.heap.size, 0, none⟩) m m (flat (decL s m)) ∧ Fr nob w w') := wDecode_ok w b off cap s m hm m0 m1 hc hseg
    rw [hok]
    obtain ⟨l, hl⟩ : ∃ l, l = decL s m := ⟨_, rfl⟩
    have hlen : l.length = m := by rw [hl]; exact decL_len s m
    have hlok : ∀ x ∈ l, x.ok := by rw [hl]; exact decL_ok s m
    rw [← hl] at HD ⊢
    have HLEN := hide hlen
    have HLOK := hide hlok
    clear hbad hm hm8 hok hne hseg hl hlen hlok hv hc hs
    go_enter Try.func44, Try.ntmps44
    go_wp2_with fail
    refine HD.out.mono ?_
    rintro e w1 ⟨rfl, o1, f1⟩
    have HC : Hid (Calls Try.prog 25 #[.slice (some ⟨w.heap.size, 0, none⟩) m m] w1 fun e w' => e = .returned (.tuple #[.int .i64 (chk l).1, .int .i64 (chk l).2]) ∧ Fr nob w1 w') := by
      have := cProgram_any w1 (some ⟨w.heap.size, 0, none⟩) m l (own_view o1 (by simp)) HLOK.out
      rw [HLEN.out] at this
      exact this
    have O1 := hide o1
    have F1 := hide f1
    clear o1 f1 HD
    go_wp2_with fail
    refine HC.out.mono ?_
    rintro e w2 ⟨rfl, f2⟩
    have O2 := hide (own_fr O1.out f2 (fun _ _ h => h))
    have F2 := hide (F1.out.trans f2)
    clear f2 HC O1 F1
    obtain ⟨ce, hce⟩ : ∃ ce, ce = (chk l).1 := ⟨_, rfl⟩
    have HCE := hide hce
    generalize (chk l).2 = cn
    rw [← hce]
    clear hce
    go_wp2_with fail
    go_ret2
    refine ⟨some ⟨w.heap.size, 0, none⟩, m, m, ret_si HCE.out, fun e0 => ⟨HLEN.out.symm, ⟨?_, chk_good HLOK.out e0⟩, fun x hx => ?_⟩, F2.out⟩
    · show Own w2 _ 4 (some ⟨w.heap.size, 0, none⟩) l.length m (flat l)
      rw [HLEN.out]
      exact O2.out
    · simp only [bk, Value.ownBlock, Option.some.injEq] at hx
      omega
#print axioms prog_any

/-! ### Install -/
/-- A list of lists of bytes that came in. -/
structure BL (w : World) (so : Option Addr) (ss : List ByteArray) : Prop where
  ex : ∃ vs : List Value, View w so vs ∧ vs.length = ss.length ∧ ∀ (j : Nat) (s : ByteArray) (v : Value), ss[j]? = some s → vs[j]? = some v → ∃ a c, v = .slice a s.size c ∧ s.size ≤ c ∧ View w a (bcs s)
theorem BL.fr0 {w w' : World} {so : Option Addr} {ss : List ByteArray} (h : BL w so ss) (f : Fr nob w w') : BL w' so ss := by
  obtain ⟨vs, h1, h2, h3⟩ := h.ex
  exact ⟨vs, h1.fr0 f, h2, fun j s v hs hv => by obtain ⟨a, c, e1, e2, e3⟩ := h3 j s v hs hv; exact ⟨a, c, e1, e2, e3.fr0 f⟩⟩
theorem BL.at {w : World} {so : Option Addr} {ss : List ByteArray} (h : BL w so ss) {n : Nat} (hn : n < ss.length) :
    ∃ b off a c, so = some ⟨b, off, none⟩ ∧ w.cell? ⟨b, off + n, none⟩ = some (.slice a ss[n].size c) ∧ ss[n].size ≤ c ∧ View w a (bcs ss[n]) := by
  obtain ⟨vs, h1, h2, h3⟩ := h.ex
  obtain ⟨b, off, rfl, hs⟩ := h1.some (by intro e; rw [e] at h2; simp at h2; omega)
  have hv : vs[n]? = some (vs[n]'(by omega)) := List.getElem?_eq_getElem (by omega)
  obtain ⟨a, c, e1, e2, e3⟩ := h3 n ss[n] _ (List.getElem?_eq_getElem hn) hv
  exact ⟨b, off, a, c, rfl, by rw [← e1]; exact hs n _ hv, e2, e3⟩
/-- A stack of the program: its block, and the programs' lists. -/
structure SP (w : World) (g : Nat) (t : TypeId) (ls : List Prg) : Prop where
  blk : SB w g t ls
  p : ∀ q ∈ ls, PO w q
/-- Half way in Install: the copy G holds those that were there, and qs. -/
structure IN (w wr : World) (ls : List Prg) (ss : List ByteArray) (n G : Nat) (qs : List Prg) : Prop where
  blk : SB wr G 75 (ls ++ qs)
  hG : w.heap.size ≤ G
  len : qs.length = n
  q : ∀ x ∈ qs, PO wr x ∧ ∀ y, bk (.slice x.a x.l.length x.cap) y → w.heap.size ≤ y
  m : qs.map Prg.l = (ss.take n).map (fun s => decL s (s.size / 8))
  e : ∀ j, j < n → insF ss j = false
  f : Fr nob w wr
theorem po_fr {S : Nat → Prop} {w w' : World} {q : Prg} (h : PO w q) (f : Fr S w w') (hS : ∀ x, bk (.slice q.a q.l.length q.cap) x → ¬ S x) : PO w' q := ⟨own_fr h.1 f hS, h.2⟩
theorem IN.fr {w wr wx : World} {ls : List Prg} {ss : List ByteArray} {n G : Nat} {qs : List Prg} (h : IN w wr ls ss n G qs) (f : Fr nob wr wx) : IN w wx ls ss n G qs :=
  ⟨h.blk.fr0 f, h.hG, h.len, fun x hx => ⟨po_fr (h.q x hx).1 f (fun _ _ h => h), (h.q x hx).2⟩, h.m, h.e, h.f.trans f⟩
theorem po_ne {w : World} {q : Prg} (h : PO w q) {g : Nat} {c : Array Value} {t : TypeId} (hb : w.heap[g]? = some (.cells c t (0, 0))) (ht : t ≠ 32) : ∀ x, bk (.slice q.a q.l.length q.cap) x → ¬ only g x := fun x hx e => by
  have e' : x = g := e
  rw [e'] at hx
  exact own_ne h.1 hb (fun e => ht e.symm) hx
theorem IN.next {w wr w2 : World} {ls : List Prg} {ss : List ByteArray} {n G : Nat} {qs : List Prg} (h : IN w wr ls ss n G qs) (hn : n < ss.length) (p : Prg) (hp : PO wr p) (hlo : ∀ y, bk (.slice p.a p.l.length p.cap) y → w.heap.size ≤ y)
    (hl : p.l = decL ss[n] (ss[n].size / 8)) (hz : okP ss[n] = 0) (hb : SB w2 G 75 (ls ++ qs ++ [p])) (f : Fr (only G) wr w2) : IN w w2 ls ss (n + 1) G (qs ++ [p]) := by
  refine ⟨by rw [← List.append_assoc]; exact hb, h.hG, by simp [h.len], ?_, ?_, ?_, ?_⟩
  · intro x hx
    rcases List.mem_append.1 hx with hx | hx
    · exact ⟨po_fr (h.q x hx).1 f (po_ne (h.q x hx).1 h.blk (by decide)), (h.q x hx).2⟩
    · simp only [List.mem_singleton] at hx
      subst hx
      exact ⟨po_fr hp f (po_ne hp h.blk (by decide)), hlo⟩
  · rw [List.map_append, h.m, List.take_succ_eq_append_getElem hn, List.map_append]
    simp [hl]
  · intro j hj
    rcases Nat.lt_or_ge j n with h1 | h1
    · exact h.e j h1
    · rw [show j = n by omega]
      unfold insF
      rw [List.getD_eq_getElem?_getD, List.getElem?_eq_getElem hn]
      simp [hz]
  · exact fr_new h.f h.hG f
theorem slots_ok (ls : List Prg) : (slots ls).toArray.all (·.oneCell') = true := by
  obtain ⟨a0, c0, h0⟩ := slot_sl ls 0
  obtain ⟨a1, c1, h1⟩ := slot_sl ls 1
  obtain ⟨a2, c2, h2⟩ := slot_sl ls 2
  obtain ⟨a3, c3, h3⟩ := slot_sl ls 3
  obtain ⟨a4, c4, h4⟩ := slot_sl ls 4
  obtain ⟨a5, c5, h5⟩ := slot_sl ls 5
  obtain ⟨a6, c6, h6⟩ := slot_sl ls 6
  obtain ⟨a7, c7, h7⟩ := slot_sl ls 7
  unfold slots
  rw [h0, h1, h2, h3, h4, h5, h6, h7]
  simp [Value.oneCell']
theorem fr_setRow (w : World) (g : Nat) (c : Array Value) : Fr (only g) w (w.setRow g c) :=
  ⟨rfl, rfl, rfl, by rw [setRow_size]; exact Nat.le_refl _, fun k hk hS => setRow_other _ _ _ _ (fun e => hS e)⟩
theorem much_ins {ls qs : List Prg} {ss : List ByteArray} (hq : qs.map Prg.l = ss.map (fun s => decL s (s.size / 8))) (he : ∀ j, j < ss.length → insF ss j = false) : insA ls ss = if much (ls ++ qs) = true then (12, 0) else (0, 0) := by
  have hlen : qs.length = ss.length := by have := congrArg List.length hq; simpa using this
  rw [insA_none he, ← tot_map hq, ← tot_app, ← hlen, ← List.length_append]
  unfold much
  generalize ls ++ qs = xs
  by_cases h8 : 8 < xs.length
  · rw [if_pos (.inl h8)]; simp [h8]
  · rw [List.take_of_length_le (by omega)]
    by_cases h9 : 8192 < tot xs
    · rw [if_pos (.inr h9)]; simp [h9]
    · rw [if_neg (by omega)]; simp [h8, h9]
set_option maxRecDepth 100000 in
set_option maxHeartbeats 4000000 in
theorem stInstall_any (w : World) (g : Nat) (t : TypeId) (ls : List Prg) (h : SP w g t ls) (ht : t ≠ 32) (hl : ls.length ≤ 8) (so : Option Addr) (sc : Nat) (ss : List ByteArray) (hv : BL w so ss) (hsl : ss.length ≤ 10000000) (hsz : ∀ s ∈ ss, s.size ≤ 100000000) :
    Calls Try.prog 30 #[.pointer (some ⟨g, 0, none⟩), .slice so ss.length sc] w fun e w' => e = .returned (.tuple #[.int .i64 (insA ls ss).1, .int .i64 (insA ls ss).2]) ∧ ((insA ls ss).1 ≠ 0 → Fr nob w w') ∧
      ((insA ls ss).1 = 0 → ∃ qs, SP w' g t (ls ++ qs) ∧ qs.map Prg.l = ss.map (fun s => decL s (s.size / 8)) ∧ (∀ q ∈ qs, ∀ x, bk (.slice q.a q.l.length q.cap) x → w.heap.size ≤ x) ∧ Fr (only g) w w') := by
  have HS := hide h
  have HT := hide ht
  have HV := hide hv
  have HSZ := hide hsz
  have hgl := h.blk.lt
  have K1 : Hid ((w.alloc (.cells (slots []).toArray 75)).heap[w.heap.size]? = some (.cells (slots []).toArray 75 (0, 0))) := heap_alloc_new w _
  clear h hv hsz ht
  go_enter Try.func30, Try.ntmps30
  go_wp2_with (first
    | (refine wpList_load_row rfl 75 _ rfl g rfl t (slots ls).toArray (0, 0) _ HS.out.blk Try.underlying75 rfl (by kernel_rfl) ?_)
    | (refine wpList_store_row rfl 75 _ _ rfl w.heap.size (slots ls).toArray rfl rfl 75 (slots []).toArray K1.out (by kernel_rfl) (by kernel_rfl) (slots_ok ls) ?_))
  obtain ⟨w1, hw1⟩ : ∃ w1, w1 = (w.alloc (.cells (slots []).toArray 75)).setRow w.heap.size (slots ls).toArray := ⟨_, rfl⟩
  change Code.wp _ _ _ _ ((w.alloc (.cells (slots []).toArray 75)).setRow w.heap.size (slots ls).toArray)
  rw [← hw1]
  have I1 : Hid (IN w w1 ls ss 0 w.heap.size []) := by
    refine ⟨?_, Nat.le_refl _, rfl, (fun x hx => by cases hx), rfl, fun j hj => absurd hj (Nat.not_lt_zero _), ?_⟩
    · rw [hw1, List.append_nil]; exact setRow_heap _ _ _ _ _ _ K1.out
    · rw [hw1]; exact fr_new ((Fr.refl _ w).alloc _) (Nat.le_refl _) (fr_setRow _ _ _)
  clear hw1 K1
  go_wp2_with fail
  go_loopw [16] (fun y wr => ∃ (n : Nat) (qs : List Prg), n ≤ ss.length ∧ y = .int .i64 n ∧ IN w wr ls ss n w.heap.size qs) (fun y _ => ss.length - (intOf y).toNat)
  case atStart => exact ⟨0, [], Nat.zero_le _, rfl, I1.out⟩
  case round =>
    clear I1
    obtain ⟨n, qs, hn, rfl, I⟩ := hrel
    have hwl := I.f.size
    have hlq : (ls ++ qs).length ≤ 100000000 := by rw [List.length_append, I.len]; omega
    have HI := hide I
    by_cases hlt : n < ss.length
    · obtain ⟨b, off, a, c, rfl, c1, hc, hvs⟩ := (HV.out.fr0 I.f).at hlt
      obtain ⟨s, hs⟩ : ∃ s, s = ss[n] := ⟨_, rfl⟩
      rw [← hs] at c1 hc hvs
      have hss : s.size ≤ 100000000 := HSZ.out s (by rw [hs]; exact List.getElem_mem hlt)
      have HP := hide (prog_any wr a c s hvs hc hss)
      have HSE := hide hs
      have hlti : (n : Int) < (ss.length : Int) := by omega
      clear hs hvs hc hss I
      go_wp2_with fail
      refine HP.out.mono ?_
      rintro e w2 ⟨a', n', c', rfl, hgood, f2⟩
      have I2 := hide (HI.out.fr f2)
      clear HP c1 f2
      by_cases hz : okP s = 0
      · obtain ⟨rfl, hPO, hlo⟩ := hgood hz
        have HPO := hide hPO
        have HLO := hide (fun x hx => Nat.le_trans hwl (hlo x hx))
        have HZ := hide hz
        rw [hz]
        clear hPO hlo hgood hz HI
        go_wp2_with fail
        refine (put_any w2 w.heap.size _ (ls ++ qs) I2.out.blk ⟨a', c', decL s (s.size / 8)⟩ hlq).mono ?_
        rintro e w3 ⟨rfl, b3, f3⟩
        have I3 := hide (I2.out.next hlt ⟨a', c', decL s (s.size / 8)⟩ HPO.out HLO.out (by rw [← HSE.out]) (by rw [← HSE.out]; exact HZ.out) b3 f3)
        clear b3 f3 I2 HPO HLO
        go_wp2_with fail
        go_roundw
        case rel => exact ⟨n + 1, _, by omega, by go_num, I3.out⟩
        case measure => simp [intOf]; omega
      · have hA : insA ls ss = (okP s, (n : Int)) := by
          rw [insA_bad hlt HI.out.e (by rw [← HSE.out]; exact hz), ← HSE.out]
        have HA := hide hA
        have HZ := hide hz
        clear hgood hA HI
        obtain ⟨z, hze⟩ : ∃ z, z = okP s := ⟨_, rfl⟩
        rw [← hze] at hz HA HZ ⊢
        have e1 : (z != 0) = true := by rw [bne_iff_ne]; exact hz
        clear hze hz
        go_wp2_with fail
        go_ret2
        exact ⟨ret_ii HA.out, fun _ => I2.out.f, fun e => absurd (by rw [HA.out] at e; exact e) HZ.out⟩
    · have hnl : n = ss.length := by omega
      subst hnl
      have hq : qs.map Prg.l = ss.map (fun s => decL s (s.size / 8)) := by rw [I.m, List.take_length]
      have hA := much_ins (ls := ls) hq I.e
      have hgd : ∀ q ∈ ls ++ qs, Good q.l := fun q hq => (List.mem_append.1 hq).elim (fun h => (HS.out.p q h).2) (fun h => (I.q q h).1.2)
      have HM := hide (much_any wr w.heap.size _ (ls ++ qs) I.blk hgd hlq)
      have HA := hide hA
      have HQ := hide hq
      have hgne : g ≠ w.heap.size := by omega
      have HGN := hide hgne
      have hB : wr.heap[g]? = some (.cells (slots ls).toArray t (0, 0)) := I.f.heap HS.out.blk (fun h => h)
      have HB := hide hB
      clear hA hq hgd I hgne hB hlt hlq hwl
      go_wp2_with fail
      refine HM.out.mono ?_
      rintro e w2 ⟨rfl, rfl⟩
      clear HM
      cases hm : much (ls ++ qs) with
      | true =>
        rw [hm, if_pos rfl] at HA
        clear hm
        go_wp2_with fail
        go_ret2
        exact ⟨ret_ii HA.out, fun _ => HI.out.f, fun e => by rw [HA.out] at e; cases e⟩
      | false =>
        rw [hm, if_neg (by decide)] at HA
        clear hm
        go_wp2_with (first
          | (refine wpList_load_row rfl 75 _ rfl w.heap.size rfl 75 (slots (ls ++ qs)).toArray (0, 0) _ HI.out.blk Try.underlying75 rfl (by kernel_rfl) ?_)
          | (refine wpList_store_row rfl 75 _ _ rfl g (slots (ls ++ qs)).toArray rfl rfl t (slots ls).toArray HB.out (by kernel_rfl) (by kernel_rfl) (slots_ok _) ?_))
        go_ret2
        refine ⟨ret_ii HA.out, fun e => absurd (by rw [HA.out]) e, fun _ => ⟨qs, ⟨setRow_heap _ _ _ _ _ _ HB.out, ?_⟩, HQ.out, fun q hq => (HI.out.q q hq).2, (HI.out.f.mono (fun _ _ h => absurd h (fun h => h))).trans (fr_setRow _ _ _)⟩⟩
        intro q hq
        rcases List.mem_append.1 hq with h1 | h1
        · have hp := po_fr (HS.out.p q h1) HI.out.f (fun _ _ h => h)
          exact po_fr hp (fr_setRow _ _ _) (po_ne hp HB.out HT.out)
        · exact po_fr (HI.out.q q h1).1 (fr_setRow _ _ _) (po_ne (HI.out.q q h1).1 HB.out HT.out)
#print axioms stInstall_any

/-! ### Judge -/
theorem jdgN_neg (ls : List Prg) (r : ByteArray) (n : Nat) (h : (jdgN ls r n).2 < 0) : (jdgN ls r n).1 = 2147418112 := by
  induction n with
  | zero => rfl
  | succ n ih =>
    revert h
    show (match ls[n]? with | some p => jst (jdgN ls r n) n (ver p.l r) | none => jdgN ls r n).2 < 0 → (match ls[n]? with | some p => jst (jdgN ls r n) n (ver p.l r) | none => jdgN ls r n).1 = _
    cases ls[n]? with
    | none => exact ih
    | some p =>
      show (jst (jdgN ls r n) n (ver p.l r)).2 < 0 → (jst (jdgN ls r n) n (ver p.l r)).1 = _
      unfold jst
      split
      · intro h
        have : (n : Int) < 0 := h
        omega
      · exact ih
theorem jdgN_u (ls : List Prg) (hg : ∀ q ∈ ls, Good q.l) (r : ByteArray) (n : Nat) : U32 (jdgN ls r n).1 := by
  induction n with
  | zero => exact (show U32 2147418112 from ⟨by decide, by decide⟩)
  | succ n ih =>
    show U32 (match ls[n]? with | some p => jst (jdgN ls r n) n (ver p.l r) | none => jdgN ls r n).1
    cases hn : ls[n]? with
    | none => exact ih
    | some p =>
      show U32 (jst (jdgN ls r n) n (ver p.l r)).1
      unfold jst
      split
      · exact ver_bd (hg p (List.mem_of_getElem? hn)) r
      · exact ih
theorem jst_le (ls : List Prg) (r : ByteArray) (n : Nat) (v : Int) : jst (jdgN ls r n) n v = if rnk v ≤ rnk (jdgN ls r n).1 then (v, (n : Int)) else jdgN ls r n := by
  unfold jst
  by_cases h : rnk v ≤ rnk (jdgN ls r n).1
  · rw [if_pos (.inr h), if_pos h]
  · rw [if_neg h, if_neg]
    rintro (h1 | h1)
    · have := jdgN_neg ls r n h1
      rw [this] at h
      have h7 : rnk 2147418112 = 7 := rfl
      rw [h7] at h
      exact h (rnk_bd v).2
    · exact h h1
set_option maxRecDepth 100000 in
set_option maxHeartbeats 4000000 in
theorem stJudge_any (w : World) (g : Nat) (t : TypeId) (ls : List Prg) (h : SP w g t ls) (hl : ls.length ≤ 8) (r : ByteArray) (hr : r.size = 64) :
    Calls Try.prog 31 #[.pointer (some ⟨g, 0, none⟩), .string r] w fun e w' => e = .returned (.tuple #[.int .u32 (jdgN ls r ls.length).1, .int .i64 (jdgN ls r ls.length).2]) ∧ Fr nob w w' := by
  have c8 : w.cell? ⟨g, 8, none⟩ = some (.int .i64 ls.length) := h.blk.cell 8 _ rfl
  have HS := hide h
  have hlti : (ls.length : Int) ≤ 8 := by omega
  have hgd : ∀ q ∈ ls, Good q.l := fun q hq => (h.p q hq).2
  have HG := hide hgd
  have HR := hide hr
  clear h hgd hr
  go_enter Try.func31, Try.ntmps31
  go_wp2_with fail
  go_region
  obtain ⟨w1, hw1⟩ : ∃ w1, w1 = w.drew := ⟨_, rfl⟩
  rw [← hw1]
  have F1 : Hid (Fr nob w w1) := by rw [hw1]; exact (Fr.refl _ w).drew
  clear hw1 c8
  go_wp2_with fail
  go_loopw [4, 5, 19] (fun b y z wr => ∃ n : Nat, n ≤ ls.length ∧ z = .int .i64 n ∧ b = .int .u32 (jdgN ls r n).1 ∧ y = .int .i64 (jdgN ls r n).2 ∧ Fr nob w wr) (fun _ _ z _ => ls.length - (intOf z).toNat)
  case atStart => exact ⟨0, Nat.zero_le _, rfl, rfl, rfl, F1.out⟩
  case round =>
    clear F1
    obtain ⟨n, hn, rfl, rfl, rfl, f⟩ := hrel
    have FF := hide f
    by_cases hlt : n < ls.length
    · obtain ⟨p, hp⟩ : ∃ p, p = ls[n] := ⟨_, rfl⟩
      have hb := HS.out.blk.fr0 f
      have c1 : wr.cell? ⟨g, n, none⟩ = some (.slice p.a p.l.length p.cap) := by
        have := hb.cell n _ (slots_at (by omega))
        rw [slot_eq hlt, ← hp] at this
        exact this
      have hmem : p ∈ ls := by rw [hp]; exact List.getElem_mem hlt
      have hpo := po_fr (HS.out.p p hmem) f (fun _ _ h => h)
      have HP : Hid (Calls Try.prog 26 #[.slice p.a p.l.length p.cap, .string r] wr fun e w' => e = .returned (.tuple #[.int .u32 (ver p.l r), .int .i64 (fin p.l r : Int)]) ∧ Fr nob wr w') := mRun_any wr _ _ _ (own_view hpo.1 (by simp)) hpo.2 r HR.out
      have hnx : jdgN ls r (n + 1) = if rnk (ver p.l r) ≤ rnk (jdgN ls r n).1 then (ver p.l r, (n : Int)) else jdgN ls r n := by rw [jdgN_succ hlt, ← hp, jst_le]
      have hu1 : U32 (ver p.l r) := ver_bd hpo.2 r
      have hu2 := jdgN_u ls HG.out r n
      obtain ⟨s1, hs1⟩ : ∃ s, s = (jdgN ls r n).1 := ⟨_, rfl⟩
      obtain ⟨s2, hs2⟩ : ∃ s, s = (jdgN ls r n).2 := ⟨_, rfl⟩
      obtain ⟨pv, hpv⟩ : ∃ v, v = ver p.l r := ⟨_, rfl⟩
      have hbs : jdgN ls r n = (s1, s2) := by rw [hs1, hs2]
      rw [hbs, ← hpv] at hnx
      rw [← hs1, ← hs2]
      rw [← hs1] at hu2
      rw [← hpv] at HP hu1
      have HN := hide hnx
      have HU1 := hide hu1
      have HU2 := hide hu2
      have hlt2 : (n : Int) < (ls.length : Int) := by omega
      clear hb hp hmem hpo hnx hbs hpv f hs1 hs2 hu1 hu2
      go_wp2_with fail
      refine HP.out.mono ?_
      rintro e w2 ⟨rfl, f2⟩
      have F2 := hide (FF.out.trans f2)
      clear f2 c1 HP FF
      generalize (fin p.l r : Int) = fi
      go_wp2_with fail
      refine (mild_any _ _ HU1.out).mono ?_
      rintro e w3 ⟨rfl, f3⟩
      have F3 := hide (F2.out.trans f3)
      clear f3 F2
      go_wp2_with fail
      refine (mild_any _ _ HU2.out).mono ?_
      rintro e w4 ⟨rfl, f4⟩
      have F4 := hide (F3.out.trans f4)
      clear f4 F3
      by_cases q : rnk pv ≤ rnk s1
      · have hN : jdgN ls r (n + 1) = (pv, (n : Int)) := by rw [HN.out, if_pos q]
        have HN2 := hide hN
        clear hN HN
        generalize rnk pv = r1 at q ⊢
        generalize rnk s1 = r2 at q ⊢
        go_wp2_with fail
        go_roundw
        case rel => exact ⟨n + 1, by omega, by go_num, by rw [HN2.out], by rw [HN2.out], F4.out⟩
        case measure => simp [intOf]; omega
      · have hN : jdgN ls r (n + 1) = (s1, s2) := by rw [HN.out, if_neg q]
        have HN2 := hide hN
        clear hN HN
        generalize rnk pv = r1 at q ⊢
        generalize rnk s1 = r2 at q ⊢
        go_wp2_with fail
        go_roundw
        case rel => exact ⟨n + 1, by omega, by go_num, by rw [HN2.out], by rw [HN2.out], F4.out⟩
        case measure => simp [intOf]; omega
    · have hnl : n = ls.length := by omega
      subst hnl
      clear hlt f
      go_wp2_with fail
      go_ret2
      exact ⟨rfl, FF.out⟩
#print axioms stJudge_any

/-! ### The calls -/
set_option maxRecDepth 100000 in
theorem new_any (w : World) : Calls Try.prog 20 #[] w fun e w' => e = .returned (.pointer (some ⟨w.heap.size, 0, none⟩)) ∧ SB w' w.heap.size 77 [] ∧ Fr nob w w' := by
  go_enter Try.func20, Try.ntmps20
  go_wp2_with fail
  go_ret
  exact ⟨rfl, heap_alloc_new w _, (Fr.refl _ w).alloc _⟩
set_option maxRecDepth 100000 in
theorem sInstall_any (w : World) (g : Nat) (t : TypeId) (ls : List Prg) (h : SP w g t ls) (ht : t ≠ 32) (hl : ls.length ≤ 8) (so : Option Addr) (sc : Nat) (ss : List ByteArray) (hv : BL w so ss) (hsl : ss.length ≤ 10000000) (hsz : ∀ s ∈ ss, s.size ≤ 100000000) :
    Calls Try.prog 21 #[.pointer (some ⟨g, 0, none⟩), .slice so ss.length sc] w fun e w' => e = .returned (.tuple #[.int .i64 (insA ls ss).1, .int .i64 (insA ls ss).2]) ∧ ((insA ls ss).1 ≠ 0 → Fr nob w w') ∧
      ((insA ls ss).1 = 0 → ∃ qs, SP w' g t (ls ++ qs) ∧ qs.map Prg.l = ss.map (fun s => decL s (s.size / 8)) ∧ (∀ q ∈ qs, ∀ x, bk (.slice q.a q.l.length q.cap) x → w.heap.size ≤ x) ∧ Fr (only g) w w') := by
  have HI := hide (stInstall_any w g t ls h ht hl so sc ss hv hsl hsz)
  clear h ht hv hsz
  go_enter Try.func21, Try.ntmps21
  go_wp2_with fail
  refine HI.out.mono ?_
  rintro e w' ⟨rfl, h1⟩
  have H1 := hide h1
  clear h1 HI
  go_wp2_with fail
  go_ret2
  exact ⟨rfl, H1.out⟩
set_option maxRecDepth 100000 in
theorem sJudge_any (w : World) (g : Nat) (t : TypeId) (ls : List Prg) (h : SP w g t ls) (hl : ls.length ≤ 8) (r : ByteArray) (hr : r.size ≤ 100000000) :
    Calls Try.prog 22 #[.pointer (some ⟨g, 0, none⟩), .string r] w fun e w' => e = .returned (.tuple #[.int .u32 (jdgA ls r).1, .int .i64 (jdgA ls r).2.1, .int .i64 (jdgA ls r).2.2]) ∧ Fr nob w w' := by
  by_cases h64 : r.size = 64
  · have hA : jdgA ls r = ((jdgN ls r ls.length).1, (jdgN ls r ls.length).2, 0) := by unfold jdgA; rw [if_pos h64]
    have HA := hide hA
    have HJ := hide (stJudge_any w g t ls h hl r h64)
    have hi64 : (r.size : Int) = 64 := by omega
    clear hA h64 h
    go_enter Try.func22, Try.ntmps22
    go_wp2_with fail
    refine HJ.out.mono ?_
    rintro e w' ⟨rfl, f1⟩
    have F1 := hide f1
    clear f1 HJ
    go_wp2_with fail
    go_ret3
    exact ⟨ret_vne HA.out, F1.out⟩
  · have hA : jdgA ls r = (0, 0, 10) := by unfold jdgA; rw [if_neg h64]
    have HA := hide hA
    have e1 : ((r.size : Int) != 64) = true := by rw [bne_iff_ne]; omega
    clear hA h64 h
    go_enter Try.func22, Try.ntmps22
    go_wp2_with fail
    go_ret3
    exact ⟨ret_vne HA.out, Fr.refl _ _⟩
#print axioms sJudge_any
end Go.Proofs.Ytjgcfffepkmojaa
