import Derived.Test.YtjgcfffepkmojabGreatRJudge
import Derived.Test.YtjgcfffepkmojabGreatRCheck
namespace Go.Proofs.YtjgcfffepkmojabGreat
open Go.RowKit
set_option linter.unusedVariables false

/-! ### Installing -/
theorem decI_ok (s : ByteArray) (i : Nat) : (decI s i).ok := by
  have h0 := byt_bd s i
  have h1 := byt_bd s (i + 1)
  have h2 := byt_bd s (i + 2)
  have h3 := byt_bd s (i + 3)
  have h4 := wd_bd s (i + 4)
  exact ⟨⟨by show 0 ≤ byt s i + byt s (i + 1) * 256; omega, by show byt s i + byt s (i + 1) * 256 < 65536; omega⟩, h2, h3, h4⟩
theorem decL_ok (s : ByteArray) (n : Nat) : ∀ x ∈ decL s n, x.ok := by
  intro x hx
  simp only [decL, List.mem_map] at hx
  obtain ⟨k, _, rfl⟩ := hx
  exact decI_ok s _
/-- What is wrong with a program of bytes. -/
def okP (s : ByteArray) : Int := if s.size % 8 ≠ 0 ∨ s.size = 0 ∨ 32768 < s.size then 1 else (chk (decL s (s.size / 8))).1
def tot (ls : List Prg) : Nat := (ls.map (fun p => p.l.length)).sum
theorem tot_app (a b : List Prg) : tot (a ++ b) = tot a + tot b := by simp [tot]
def insF (ss : List ByteArray) (n : Nat) : Bool := okP (ss.getD n ⟨#[]⟩) != 0
/-- What Install answers. -/
def insA (ls : List Prg) (ss : List ByteArray) : Int × Int :=
  match (List.range ss.length).find? (insF ss) with
  | some n => (okP (ss.getD n ⟨#[]⟩), (n : Int))
  | none => if 8 < ls.length + ss.length ∨ 8192 < tot ls + (ss.map (fun s => s.size / 8)).sum then (12, 0) else (0, 0)
theorem insA_bad {ls : List Prg} {ss : List ByteArray} {n : Nat} (hn : n < ss.length) (hb : ∀ j, j < n → insF ss j = false) (h : okP ss[n] ≠ 0) : insA ls ss = (okP ss[n], (n : Int)) := by
  have e : ss.getD n ⟨#[]⟩ = ss[n] := by simp [List.getD, hn]
  unfold insA
  rw [find_first (insF ss) ss.length n hn (by unfold insF; rw [e]; simp [h]) hb]
  simp only [e]
/-- A program of the stack. -/
def PO (w : World) (q : Prg) : Prop := Own w 29 4 q.a q.l.length q.cap (flat q.l) ∧ Good q.l
/-- A stack of the reference, and all that it owns. -/
structure SO (w : World) (g : Nat) (ao : Option Addr) (cap : Nat) (ls : List Prg) : Prop where
  blk : w.heap[g]? = some (.cells #[.slice ao ls.length cap] 56 (0, 0))
  own : Own w 30 1 ao ls.length cap (pcs ls)
  p : ∀ x ∈ ls, PO w x
theorem SO.sv {w : World} {g : Nat} {ao : Option Addr} {cap : Nat} {ls : List Prg} (h : SO w g ao cap ls) : SV w g ao cap ls :=
  ⟨h.blk, own_view h.own (by simp), fun x hx => ⟨own_view (h.p x hx).1 (by simp), (h.p x hx).2⟩⟩
theorem SO.fr0 {w w' : World} {g : Nat} {ao : Option Addr} {cap : Nat} {ls : List Prg} (h : SO w g ao cap ls) (f : Fr nob w w') : SO w' g ao cap ls :=
  ⟨f.heap h.blk (fun h => h), own_fr h.own f (fun _ _ h => h), fun x hx => ⟨own_fr (h.p x hx).1 f (fun _ _ h => h), (h.p x hx).2⟩⟩
theorem SO.tot_le {w : World} {g : Nat} {ao : Option Addr} {cap : Nat} {ls : List Prg} (h : ∀ x ∈ ls, Good x.l) : tot ls ≤ ls.length * 4096 := by
  induction ls with
  | nil => simp [tot]
  | cons x l ih =>
    have h1 := (h x (by simp)).le
    have h2 := ih (fun y hy => h y (by simp [hy]))
    simp only [tot, List.map_cons, List.sum_cons, List.length_cons] at h2 ⊢
    omega
/-- How far Install has come. -/
structure IL (w wr : World) (ss : List ByteArray) (n : Nat) (aa : Option Addr) (ca : Nat) (qs : List Prg) : Prop where
  cnt : qs.length = n
  own : Own wr 30 1 aa n ca (pcs qs)
  lo : ∀ x, bk (.slice aa n ca) x → w.heap.size ≤ x
  q : ∀ q ∈ qs, PO wr q ∧ ∀ x, bk (.slice q.a q.l.length q.cap) x → w.heap.size ≤ x
  e : ∀ j, j < n → insF ss j = false
  l : qs.map Prg.l = (ss.take n).map (fun s => decL s (s.size / 8))
  f : Fr nob w wr
  z : n = 0 → aa = none ∧ ca = 0
theorem pcs_app (a b : List Prg) : pcs (a ++ b) = pcs a ++ pcs b := by
  induction a with
  | nil => rfl
  | cons x l ih => show x.v :: pcs (l ++ b) = x.v :: (pcs l ++ pcs b); rw [ih]
theorem tot_map {a : List Prg} {b : List ByteArray} (h : a.map Prg.l = b.map (fun s => decL s (s.size / 8))) : tot a = (b.map (fun s => s.size / 8)).sum := by
  have : (a.map Prg.l).map List.length = (b.map (fun s => decL s (s.size / 8))).map List.length := by rw [h]
  rw [List.map_map, List.map_map] at this
  unfold tot
  rw [show (a.map fun p => p.l.length) = a.map (List.length ∘ Prg.l) from rfl, this]
  congr 1
  apply List.map_congr_left
  intro s _
  exact decL_len s _
theorem insA_none {ls : List Prg} {ss : List ByteArray} (h : ∀ j, j < ss.length → insF ss j = false) : insA ls ss = if 8 < ls.length + ss.length ∨ 8192 < tot ls + (ss.map (fun s => s.size / 8)).sum then (12, 0) else (0, 0) := by
  unfold insA
  rw [find_none _ _ h]
theorem info_insns : (Tryz.prog.info? 30).map (fun i => (i.zero, i.size, i.bytes)) = some (some (.slice none 0 0), 1, 24) := by kernel_rfl
theorem IL.start (w : World) (ss : List ByteArray) : IL w w ss 0 none 0 [] :=
  ⟨rfl, World.ownsRow_nil _ _ _ _, fun x hx => (by simp [bk, Value.ownBlock] at hx), fun q hq => (by cases hq), fun j hj => absurd hj (Nat.not_lt_zero _), rfl, Fr.refl _ w, fun _ => ⟨rfl, rfl⟩⟩
theorem IL.fr {w wr wx : World} {ss : List ByteArray} {n : Nat} {aa : Option Addr} {ca : Nat} {qs : List Prg} (h : IL w wr ss n aa ca qs) (f : Fr nob wr wx) : IL w wx ss n aa ca qs :=
  ⟨h.cnt, own_fr h.own f (fun _ _ h => h), h.lo, fun q hq => ⟨⟨own_fr (h.q q hq).1.1 f (fun _ _ h => h), (h.q q hq).1.2⟩, (h.q q hq).2⟩, h.e, h.l, h.f.trans f, h.z⟩
/-- One more, appended. -/
theorem IL.next {w w3 w4 : World} {ss : List ByteArray} {n : Nat} {aa : Option Addr} {ca : Nat} {qs : List Prg} (h : IL w w3 ss n aa ca qs) (hn : n < ss.length) (p : Prg) (hp : PO w3 p) (hlo : ∀ x, bk (.slice p.a p.l.length p.cap) x → w.heap.size ≤ x)
    (hl : p.l = decL ss[n] (ss[n].size / 8)) (he : okP ss[n] = 0) {g c : Nat} (hlg : w.heap.size ≤ w3.heap.size)
    (o : Own w4 30 1 (some ⟨g, 0, none⟩) (n + 1) c (pcs qs ++ [p.v])) (f : Fr (bk (.slice aa n ca)) w3 w4) (hg : bk (.slice aa n ca) g ∨ w3.heap.size ≤ g) : IL w w4 ss (n + 1) (some ⟨g, 0, none⟩) c (qs ++ [p]) := by
  have hs : ∀ q, PO w3 q → PO w4 q := fun q hq => ⟨own_fr hq.1 f (fun x hx => own_apart hq.1 h.own (by decide) x hx), hq.2⟩
  refine ⟨by simp [h.cnt], ?_, ?_, ?_, ?_, ?_, ?_, fun e => by omega⟩
  · rw [pcs_app]; exact o
  · intro x hx
    simp only [bk, Value.ownBlock, Option.some.injEq] at hx
    rcases hg with hg | hg
    · have := h.lo g hg; omega
    · omega
  · intro q hq
    rcases List.mem_append.1 hq with e | e
    · exact ⟨hs q (h.q q e).1, (h.q q e).2⟩
    · rw [List.mem_singleton.1 e]; exact ⟨hs p hp, hlo⟩
  · intro j hj
    rcases Nat.lt_or_ge j n with h1 | h1
    · exact h.e j h1
    · rw [show j = n by omega]
      unfold insF
      rw [show ss.getD n ⟨#[]⟩ = ss[n] by simp [List.getD, hn], he]; rfl
  · rw [List.map_append, h.l, List.take_succ_eq_append_getElem hn, List.map_append]
    show _ ++ [p.l] = _ ++ [decL ss[n] (ss[n].size / 8)]
    rw [hl]
  · exact h.f.step f (fun x hx hb => by have := h.lo x hb; omega)

/-- The stack, grown by what was found right. -/
theorem SO.grow {w wL w5 : World} {g : Nat} {ao : Option Addr} {cap : Nat} {ls : List Prg} (hS : SO wL g ao cap ls) {ss : List ByteArray} {n : Nat} {aa : Option Addr} {ca : Nat} {qs : List Prg} (I : IL w wL ss n aa ca qs) {g5 c5 : Nat}
    (o5 : Own w5 30 1 (some ⟨g5, 0, none⟩) (ls.length + n) c5 (pcs ls ++ pcs qs)) (f5 : Fr (bk (.slice ao ls.length cap)) wL w5) (hat : bk (.slice ao ls.length cap) g5 ∨ g5 = wL.heap.size) :
    SO (w5.setCell ⟨g, 0, none⟩ (.slice (some ⟨g5, 0, none⟩) (ls.length + n) c5)) g (some ⟨g5, 0, none⟩) c5 (ls ++ qs) ∧ (∀ x, bk (.slice (some ⟨g5, 0, none⟩) (ls ++ qs).length c5) x → bk (.slice ao ls.length cap) x ∨ w.heap.size ≤ x) ∧
      Fr (fun x => x = g ∨ bk (.slice ao ls.length cap) x) w (w5.setCell ⟨g, 0, none⟩ (.slice (some ⟨g5, 0, none⟩) (ls.length + n) c5)) := by
  have hgk : ¬ bk (.slice ao ls.length cap) g := own_ne hS.own hS.blk (by decide)
  have blk5 := f5.heap hS.blk hgk
  have hlen : (ls ++ qs).length = ls.length + n := by rw [List.length_append, I.cnt]
  have po : ∀ x, PO wL x → PO (w5.setCell ⟨g, 0, none⟩ (.slice (some ⟨g5, 0, none⟩) (ls.length + n) c5)) x := fun x hx => by
    have h1 := own_fr hx.1 f5 (fun y hy => own_apart hx.1 hS.own (by decide) y hy)
    exact ⟨own_fr h1 (fr_set w5 g 0 _) (fun y hy e => own_ne h1 blk5 (by decide) (by rw [← e]; exact hy)), hx.2⟩
  refine ⟨⟨?_, ?_, ?_⟩, ?_, ?_⟩
  · rw [heap_setCell_same _ _ _ _ _ _ blk5, hlen]; rfl
  · rw [hlen, pcs_app]
    exact own_fr o5 (fr_set w5 g 0 _) (fun y hy e => own_ne o5 blk5 (by decide) (by rw [← e]; exact hy))
  · intro x hx
    rcases List.mem_append.1 hx with e | e
    · exact po x (hS.p x e)
    · exact po x (I.q x e).1
  · intro x hx
    simp only [bk, Value.ownBlock, Option.some.injEq] at hx
    have hx' : x = g5 := hx.symm
    rw [hx']
    rcases hat with h | h
    · exact .inl h
    · exact .inr (by have := I.f.size; omega)
  · refine ((I.f.mono (fun _ _ h => h.elim)).trans (f5.mono (fun _ _ h => .inr h))).trans ((fr_set w5 g 0 _).mono (fun _ _ h => .inl h))

theorem SO.same {w : World} {g : Nat} {ao : Option Addr} {cap : Nat} {ls : List Prg} (hS : SO w g ao cap ls) : SO (w.setCell ⟨g, 0, none⟩ (.slice ao ls.length cap)) g ao cap (ls ++ []) := by
  rw [List.append_nil]
  refine ⟨?_, ?_, ?_⟩
  · rw [heap_setCell_same _ _ _ _ _ _ hS.blk]; rfl
  · exact own_fr hS.own (fr_set w g 0 _) (fun y hy e => own_ne hS.own hS.blk (by decide) (by rw [← e]; exact hy))
  · intro x hx
    have h1 := hS.p x hx
    exact ⟨own_fr h1.1 (fr_set w g 0 _) (fun y hy e => own_ne h1.1 hS.blk (by decide) (by rw [← e]; exact hy)), h1.2⟩

set_option maxRecDepth 100000 in
set_option maxHeartbeats 4000000 in
theorem rInstall_any (w : World) (g : Nat) (ao : Option Addr) (cap : Nat) (ls : List Prg) (h : SO w g ao cap ls) (hl : ls.length ≤ 10000000) (so : Option Addr) (sc : Nat) (ss : List ByteArray) (hv : View w so (scs' ss)) (hsl : ss.length ≤ 10000000) (hsz : ∀ s ∈ ss, s.size ≤ 100000000) :
    Calls Tryz.prog 37 #[.pointer (some ⟨g, 0, none⟩), .slice so ss.length sc] w fun e w' => e = .returned (.tuple #[.int .i64 (insA ls ss).1, .int .i64 (insA ls ss).2]) ∧
      ((insA ls ss).1 ≠ 0 → Fr nob w w') ∧
      ((insA ls ss).1 = 0 → ∃ ao' cap' qs, SO w' g ao' cap' (ls ++ qs) ∧ qs.map Prg.l = ss.map (fun s => decL s (s.size / 8)) ∧ (∀ x, bk (.slice ao' (ls ++ qs).length cap') x → bk (.slice ao ls.length cap) x ∨ w.heap.size ≤ x) ∧
        (∀ q ∈ qs, ∀ x, bk (.slice q.a q.l.length q.cap) x → w.heap.size ≤ x) ∧ Fr (fun x => x = g ∨ bk (.slice ao ls.length cap) x) w w') := by
  have HO := hide h
  have HV := hide hv
  have HSZ := hide hsz
  have c0 : w.cell? ⟨g, 0, none⟩ = some (.slice ao ls.length cap) := cell_blk h.blk rfl
  have htl : ∀ n, tot (ls.take n) ≤ ls.length * 4096 := fun n => by
    have h1 := SO.tot_le (w := w) (g := g) (ao := ao) (cap := cap) (ls := ls.take n) (fun x hx => (h.p x (List.mem_of_mem_take hx)).2)
    have h2 : (ls.take n).length ≤ ls.length := by rw [List.length_take]; omega
    have h3 : (ls.take n).length * 4096 ≤ ls.length * 4096 := Nat.mul_le_mul_right _ h2
    omega
  have HTL := hide htl
  clear h hv hsz htl
  go_enter Tryz.func37, Tryz.ntmps37
  go_wp2_with fail
  go_loopw [7, 8] (fun t y wr => ∃ n : Nat, n ≤ ls.length ∧ y = .int .i64 n ∧ t = .int .i64 (tot (ls.take n) : Int) ∧ wr = w) (fun _ y _ => ls.length - (intOf y).toNat)
  case atStart => exact ⟨0, Nat.zero_le _, rfl, rfl, rfl⟩
  case round =>
    obtain ⟨n, hn, rfl, rfl, rfl⟩ := hrel
    by_cases hlt : n < ls.length
    · obtain ⟨b, off, rfl, hc⟩ := view_at (f := fun p : Prg => [p.v]) (n := 1) (fun _ => rfl) (by decide) HO.out.sv.v hlt
      obtain ⟨p, hp⟩ : ∃ p, p = ls[n] := ⟨_, rfl⟩
      rw [← hp] at hc
      have c1 : wr.cell? ⟨b, off + n, none⟩ = some (.slice p.a p.l.length p.cap) := by
        have := hc 0 p.v (by decide) rfl
        rw [Nat.mul_one, Nat.add_zero] at this
        exact this
      have hnx : tot (ls.take (n + 1)) = tot (ls.take n) + p.l.length := by
        rw [List.take_succ_eq_append_getElem hlt, tot_app, ← hp]; simp [tot]
      have hbd := HTL.out (n + 1)
      have hmul : ls.length * 4096 ≤ 10000000 * 4096 := Nat.mul_le_mul_right _ hl
      have HN := hide hnx
      rw [hnx] at hbd
      clear hc hp hnx
      generalize tot (ls.take n) = T at hbd HN ⊢
      go_wp2_with fail
      go_roundw
      case rel => exact ⟨n + 1, by omega, by go_num, by rw [HN.out]; go_num, by first | rfl | trivial⟩
      case measure => simp [intOf]; omega
    · have hfull : tot (ls.take n) = tot ls := by rw [List.take_of_length_le (by omega)]
      rw [hfull]
      have hbd := HTL.out n
      rw [hfull] at hbd
      have hmul : ls.length * 4096 ≤ 10000000 * 4096 := Nat.mul_le_mul_right _ hl
      clear hfull HTL
      rename World => w
      go_wp2_with fail
      go_loopw [6, 7, 9] (fun al t y wx => ∃ (n : Nat) (aa : Option Addr) (ca : Nat) (qs : List Prg), n ≤ ss.length ∧ y = .int .i64 n ∧ al = .slice aa n ca ∧ t = .int .i64 ((tot ls + tot qs : Nat) : Int) ∧ IL w wx ss n aa ca qs) (fun _ _ y _ => ss.length - (intOf y).toNat)
      case atStart => exact ⟨0, none, 0, [], Nat.zero_le _, rfl, rfl, by simp [tot], IL.start w ss⟩
      case round =>
        obtain ⟨n, aa, ca, qs, hn, rfl, rfl, rfl, I⟩ := hrel
        rename World => wL
        have hqt : tot qs ≤ n * 4096 := by
          have := SO.tot_le (w := w) (g := g) (ao := ao) (cap := cap) (ls := qs) (fun x hx => (I.q x hx).1.2)
          rw [I.cnt] at this; exact this
        have hnm : n * 4096 ≤ 10000000 * 4096 := Nat.mul_le_mul_right _ (by omega)
        have hwl := I.f.size
        have d0 : wL.cell? ⟨g, 0, none⟩ = some (.slice ao ls.length cap) := cell_blk (HO.out.fr0 I.f).blk rfl
        have HI := hide I
        by_cases hlt : n < ss.length
        · obtain ⟨b, off, rfl, hc⟩ := view_at (f := fun s : ByteArray => [Value.string s]) (n := 1) (fun _ => rfl) (by decide) (HV.out.fr0 I.f) hlt
          obtain ⟨s, hs⟩ : ∃ s, s = ss[n] := ⟨_, rfl⟩
          rw [← hs] at hc
          have c1 : wL.cell? ⟨b, off + n, none⟩ = some (.string s) := by
            have := hc 0 (.string s) (by decide) rfl
            rw [Nat.mul_one, Nat.add_zero] at this
            exact this
          have hss : s.size ≤ 100000000 := HSZ.out s (by rw [hs]; exact List.getElem_mem hlt)
          have HS := hide hs
          clear hc hs I
          by_cases hbad : s.size % 8 ≠ 0 ∨ s.size = 0 ∨ 32768 < s.size
          · have hok : okP s = 1 := by unfold okP; rw [if_pos hbad]
            have hA : insA ls ss = (1, (n : Int)) := by
              rw [insA_bad hlt HI.out.e (by rw [← HS.out, hok]; decide), ← HS.out, hok]
            have HA := hide hA
            have HBAD := hide hbad
            clear hbad hok hA
            go_wp2_with fail
            refine (rDecode_bad _ s hss HBAD.out).mono ?_
            rintro e w2 ⟨rfl, rfl⟩
            go_wp2_with fail
            go_ret2
            exact ⟨ret_ii HA.out, fun _ => HI.out.f, fun e => by rw [HA.out] at e; cases e⟩
          · obtain ⟨m, hm⟩ : ∃ m, s.size = m * 8 := ⟨s.size / 8, by omega⟩
            have hm8 : s.size / 8 = m := by omega
            have hok : okP s = (chk (decL s m)).1 := by unfold okP; rw [if_neg hbad, hm8]
            have m0 : 0 < m := by omega
            have m1 : m ≤ 4096 := by omega
            have HOKP := hide hok
            have HM8 := hide hm8
            have HD : Hid (∀ w, Calls Tryz.prog 20 #[.string s] w fun e w' => ∃ a c, e = .returned (.tuple #[.slice a m c, .int .i64 0]) ∧ Own w' 29 4 a m c (flat (decL s m)) ∧ (∀ x, bk (.slice a m c) x → w.heap.size ≤ x) ∧ Fr nob w w') := fun w => rDecode_ok w s m hm m0 m1
            clear hbad hok hm8 hm hss
            go_wp2_with fail
            refine (HD.out _).mono ?_
            rintro e w2 ⟨a, c, rfl, o2, hlo2, f2⟩
            have I2 := hide (HI.out.fr f2)
            obtain ⟨l, hll⟩ : ∃ l, l = decL s m := ⟨_, rfl⟩
            have hlen : l.length = m := by rw [hll]; exact decL_len s m
            rw [← hll] at o2
            have hlok : ∀ x ∈ l, x.ok := by rw [hll]; exact decL_ok s m
            have HCK : Hid (Calls Tryz.prog 26 #[.slice a m c] w2 fun e w' => e = .returned (.tuple #[.int .i64 (chk l).1, .int .i64 (chk l).2]) ∧ Fr nob w2 w') := by
              have := rCheck_any w2 a c l (own_view o2 (by simp)) hlok
              rw [hlen] at this
              exact this
            have HLO := hide (fun x hx => Nat.le_trans hwl (hlo2 x hx))
            have O2 := hide o2
            have HLL := hide hll
            have HLOK := hide hlok
            have HLEN := hide hlen
            clear o2 hlo2 f2 hll hlok hlen HD c1 d0
            go_wp2_with fail
            refine HCK.out.mono ?_
            rintro e w3 ⟨rfl, f3⟩
            have I3 := hide (I2.out.fr f3)
            have O3 := hide (own_fr O2.out f3 (fun _ _ h => h))
            clear f3 HCK O2 I2
            obtain ⟨ce, hce⟩ : ∃ ce, ce = (chk l).1 := ⟨_, rfl⟩
            generalize (chk l).2 = cn
            rw [← hce]
            by_cases hz : ce = 0
            · have hgood : Good l := chk_good HLOK.out (by rw [← hce]; exact hz)
              have hP : PO w3 ⟨a, c, l⟩ := ⟨by show Own w3 _ 4 a l.length c (flat l); rw [HLEN.out]; exact O3.out, hgood⟩
              have HP := hide hP
              have hz0 : okP s = 0 := by rw [HOKP.out, ← HLL.out, ← hce]; exact hz
              have HZ := hide hz0
              clear hP hgood hce hz0
              subst hz
              obtain ⟨i0, hi, hz0, hz1, hz2⟩ := info_parts info_insns
              have hb1 : (n + 1) * 24 ≤ 140737488355328 := by omega
              go_wp2_with (at_builtin; refine wpList_append_keep _ rfl _ _ 54 rfl 30 i0 (.slice none 0 0) 1 24 Tryz.underlying54 hi hz0 hz1 hz2 rfl (by decide) aa n ca (pcs qs) rfl (I3.out.own.alloc _) ⟨w3.heap.size, 0, none⟩ 1 1 [.slice a m c] rfl rfl ?c1 ?c2 (by decide) ?c3 ?c4 (w3.heap.size + 1) (by simp) ?_)
              case c1 => exact World.news_of_block (heap_alloc_new w3 _)
              case c2 => intro u hu; simp at hu; subst hu; rfl
              case c3 => unfold maxLen; omega
              case c4 => omega
              intro g4 c4 w4 o4 _ f4 hat
              have f4' : Fr (bk (.slice aa n ca)) w3 w4 := Fr.trans ((Fr.refl _ w3).alloc _) f4
              have hI4 := I3.out.next hlt ⟨a, c, l⟩ HP.out (by show ∀ x, bk (.slice a l.length c) x → _; rw [HLEN.out]; exact HLO.out) (by rw [← HS.out, HM8.out]; exact HLL.out) (by rw [← HS.out]; exact HZ.out) I3.out.f.size (by show Own w4 _ 1 _ _ _ (pcs qs ++ [.slice a l.length c]); rw [HLEN.out]; exact o4) f4' (hat.imp id (fun e => by omega))
              have HI4 := hide hI4
              have htot : tot (qs ++ [⟨a, c, l⟩]) = tot qs + m := by rw [tot_app]; simp [tot, HLEN.out]
              have HTT := hide htot
              clear o4 f4 f4' hat hI4 htot hi hz0 hz1 hz2
              go_wp2_with fail
              go_roundw
              case rel => exact ⟨n + 1, _, _, qs ++ [⟨a, c, l⟩], by omega, by go_num, rfl, by rw [HTT.out]; go_num, HI4.out⟩
              case measure => simp [intOf]; omega
            · have hz' : (ce == 0) = false := by simp [hz]
              have hA : insA ls ss = (ce, (n : Int)) := by
                have e1 : okP s = ce := by rw [HOKP.out, ← HLL.out, hce]
                rw [insA_bad hlt HI.out.e (by rw [← HS.out, e1]; exact hz), ← HS.out, e1]
              have HA := hide hA
              have HZ := hide hz
              clear hA hce hz
              go_wp2_with fail
              go_ret2
              exact ⟨ret_ii HA.out, fun _ => I3.out.f, fun e => absurd (by rw [HA.out] at e; exact e) HZ.out⟩
        · have hnl : n = ss.length := by omega
          subst hnl
          have hA := insA_none (ls := ls) I.e
          have hq : qs.map Prg.l = ss.map (fun s => decL s (s.size / 8)) := by have := I.l; rw [List.take_length] at this; exact this
          rw [← tot_map hq] at hA
          have HQ := hide hq
          have hw8 : IntKind.i64.wrap ((ls.length : Int) + (ss.length : Int)) = ((ls.length + ss.length : Nat) : Int) := by rw [IntKind.wrap_i64]; omega
          generalize hT : tot ls + tot qs = T at hA ⊢
          have hTb : T ≤ 90000000000 := by omega
          by_cases h8 : 8 < ls.length + ss.length
          · rw [if_pos (.inl h8)] at hA
            have HA := hide hA
            have e1 : decide ((8 : Int) < ((ls.length + ss.length : Nat) : Int)) = true := by simp; omega
            have e2 : decide ((8 : Int) < (ls.length : Int) + (ss.length : Int)) = true := by simp; omega
            clear hA hq I h8 hT
            go_wp2_with fail
            go_ret2
            exact ⟨ret_ii HA.out, fun _ => HI.out.f, fun e => by rw [HA.out] at e; cases e⟩
          · have e1 : decide ((8 : Int) < ((ls.length + ss.length : Nat) : Int)) = false := by simp; omega
            have e2 : decide ((8 : Int) < (ls.length : Int) + (ss.length : Int)) = false := by simp; omega
            by_cases hT8 : 8192 < T
            · rw [if_pos (.inr hT8)] at hA
              have HA := hide hA
              have e3 : decide ((8192 : Int) < (T : Int)) = true := by simp; omega
              clear hA hq I h8 hT hT8
              go_wp2_with fail
              go_ret2
              exact ⟨ret_ii HA.out, fun _ => HI.out.f, fun e => by rw [HA.out] at e; cases e⟩
            · rw [if_neg (by rintro (h | h); exact h8 h; exact hT8 h)] at hA
              have HA := hide hA
              have e3 : decide ((8192 : Int) < (T : Int)) = false := by simp; omega
              have hSO := HO.out.fr0 I.f
              have HSO := hide hSO
              have zg : wL.frozen? ⟨g, 0, none⟩ = false := frozen_blk hSO.blk
              clear hA hq hT hT8 hSO
              have hgw : g < w.heap.size := World.block_lt_of_cell? w _ c0
              by_cases h0 : ss.length = 0
              · obtain ⟨rfl, rfl⟩ := I.z h0
                have hqs : qs = [] := List.eq_nil_of_length_eq_zero (by rw [I.cnt]; exact h0)
                have HQS := hide hqs
                have H0 := hide h0
                clear hqs I
                have HSM := hide HSO.out.same
                have hfm : Fr (fun x => x = g ∨ bk (.slice ao ls.length cap) x) w (wL.setCell ⟨g, 0, none⟩ (.slice ao ls.length cap)) := (HI.out.f.mono (fun _ _ h => h.elim)).trans ((fr_set wL g 0 _).mono (fun _ _ h => .inl h))
                have HFM := hide hfm
                clear hfm
                rw [h0] at e1 e2 hw8 ⊢
                clear h0
                rcases HSO.out.own.2 with ⟨hv, hn0⟩ | ⟨gg, cap', cur, hv, _, _, hnc, _⟩
                · simp only [Value.slice.injEq] at hv
                  obtain ⟨rfl, hl0, rfl⟩ := hv
                  have hle0 : ls.length ≤ 0 := by omega
                  clear hn0
                  go_wp2_with fail
                  go_ret2
                  exact ⟨ret_ii HA.out, fun e => absurd (by rw [HA.out]) e, fun _ => ⟨_, _, [], (by have := HSM.out; rw [hl0] at this; exact this), by rw [← HQS.out]; exact HQ.out, fun x hx => .inl (by rw [List.append_nil] at hx; exact hx), fun q hq => (by cases hq), (by have := HFM.out; rw [hl0] at this ⊢; exact this)⟩⟩
                · simp only [Value.slice.injEq, true_and] at hv
                  obtain ⟨rfl, rfl⟩ := hv
                  go_wp2_with fail
                  go_ret2
                  exact ⟨ret_ii HA.out, fun e => absurd (by rw [HA.out]) e, fun _ => ⟨_, _, [], HSM.out, by rw [← HQS.out]; exact HQ.out, fun x hx => .inl (by rw [List.append_nil] at hx; exact hx), fun q hq => (by cases hq), HFM.out⟩⟩
              · obtain ⟨ga, hga⟩ : ∃ ga, aa = some ⟨ga, 0, none⟩ := by
                  rcases I.own.2 with ⟨_, hn0⟩ | ⟨ga, cap', cur, hv, _⟩
                  · exact absurd hn0 h0
                  · cases hv; exact ⟨ga, rfl⟩
                subst hga
                obtain ⟨i0, hi, hz0, hz1, hz2⟩ := info_parts info_insns
                have hpl : (pcs qs).length = ss.length * 1 := by
                  have := cat_len (f := fun p : Prg => [p.v]) (n := 1) (fun _ => rfl) qs
                  rw [I.cnt] at this; exact this
                have hb1 : (ls.length + ss.length) * 24 ≤ 140737488355328 := by omega
                have hm0 : 0 < ss.length := by omega
                have hgk : ¬ bk (.slice ao ls.length cap) g := own_ne HSO.out.own HSO.out.blk (by decide)
                have HGK := hide hgk
                clear hgk
                go_wp2_with (at_builtin; refine wpList_append_keep _ rfl _ _ 54 rfl 30 i0 (.slice none 0 0) 1 24 Tryz.underlying54 hi hz0 hz1 hz2 rfl (by decide) ao ls.length cap (pcs ls) rfl HSO.out.own ⟨ga, 0, none⟩ ss.length ca (pcs qs) rfl hpl ?c1 ?c2 hm0 ?c3 hb1 wL.heap.size rfl ?_)
                case c1 =>
                  intro j u hj
                  rw [show (⟨ga, 0, none⟩ : Addr).add j = ⟨ga, j, none⟩ by rw [Addr.add_lit, Nat.zero_add]]
                  exact own_get I.own hj
                case c2 =>
                  intro u hu
                  obtain ⟨j, hj, rfl⟩ := List.getElem_of_mem hu
                  have h1 : j < qs.length := by rw [hpl, I.cnt.symm] at hj; omega
                  have h2 := cat_get (f := fun p : Prg => [p.v]) (n := 1) (fun _ => rfl) qs j 0 h1 (by decide)
                  rw [Nat.mul_one, Nat.add_zero] at h2
                  have h3 : (pcs qs)[j]? = some (qs[j]).v := h2
                  rw [List.getElem?_eq_getElem hj] at h3
                  rw [Option.some.inj h3]; rfl
                case c3 => unfold maxLen; omega
                intro g5 c5 w5 o5 _ f5 hat
                have hG := HSO.out.grow I o5 f5 hat
                have blk5 := f5.heap HSO.out.blk HGK.out
                have d5 : w5.cell? ⟨g, 0, none⟩ = some (.slice ao ls.length cap) := cell_blk blk5 rfl
                have z5 : w5.frozen? ⟨g, 0, none⟩ = false := frozen_blk blk5
                have HGG := hide hG
                clear o5 f5 hat hG blk5 d0 zg hi hz0 hz1 hz2 I hpl
                go_wp2_with fail
                go_ret2
                exact ⟨ret_ii HA.out, fun e => absurd (by rw [HA.out]) e, fun _ => ⟨_, _, qs, HGG.out.1, HQ.out, HGG.out.2.1, fun q hq => (HI.out.q q hq).2, HGG.out.2.2⟩⟩
#print axioms rInstall_any
end Go.Proofs.YtjgcfffepkmojabGreat
