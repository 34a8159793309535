import Derived.Test.YtjgcfffepkmojabGreatKeepRT
import Derived.Test.YtjgcfffepkmojabGreatStill
import Derived.Test.YtjgcfffepkmojabGreatRRun
namespace Go.Proofs.YtjgcfffepkmojabGreat
open Go.RowKit
set_option linter.unusedVariables false

/-! ### A policy of lists that are lent -/
theorem info_tests : (Tryz.prog.info? 33).map (fun i => (i.zero, i.size, i.bytes)) = some (some (.slice none 0 0), 1, 24) := by kernel_rfl
theorem info_rule' : (Tryz.prog.info? 35).map (fun i => (i.zero, i.size, i.bytes)) = some (some (.agg #[.int .u32 0, .slice none 0 0, .int .u32 0]), 3, 40) := by kernel_rfl
theorem info_test' : (Tryz.prog.info? 101).map (fun i => (i.zero, i.size, i.bytes)) = some (some (.agg #[.int .i64 0, .int .i64 0, .int .u64 0, .int .u64 0]), 4, 32) := by kernel_rfl
def zRul : Rul := ⟨0, none, 0, [], 0⟩
def zTst : Tst := ⟨0, 0, 0, 0⟩
/-- The rule, its tests lent. -/
def lentR (x : Rul) (g : Nat) : Rul := { x with ta := some ⟨g, 0, none⟩, cap := x.ts.length + 8 }
def lentL (rs : List Rul) (gs : List Nat) : List Rul := List.zipWith lentR rs gs
def tstsV (rs : List Rul) (gs : List Nat) : List Value := List.zipWith (fun (x : Rul) (g : Nat) => Value.slice (some ⟨g, 0, none⟩) (x.ts.length + 8) (x.ts.length + 8)) rs gs
theorem rep_cat {α : Type} (f : α → List Value) (x : α) (n : Nat) : rep (f x) n = cat f (List.replicate n x) := by
  induction n with
  | zero => rfl
  | succ n ih =>
    rw [rep, ih, List.replicate_succ']
    have h : ∀ (a b : List α), cat f (a ++ b) = cat f a ++ cat f b := fun a b => by
      induction a with
      | nil => rfl
      | cons y a ih => simp [cat, ih]
    rw [h]
    simp [cat]
theorem cat_append {α : Type} (f : α → List Value) (a b : List α) : cat f (a ++ b) = cat f a ++ cat f b := by
  induction a with
  | nil => rfl
  | cons y a ih => simp [cat, ih]
theorem madeR (n : Nat) : (madeCells #[Value.int .u32 0, Value.slice none 0 0, Value.int .u32 0] (n * 3)).toList = rcs (List.replicate n zRul) := by
  rw [made_rep _ n 3 rfl (by decide)]
  exact rep_cat Rul.cs zRul n
theorem madeT (n : Nat) : (madeCells #[Value.int .i64 0, Value.int .i64 0, Value.int .u64 0, Value.int .u64 0] (n * 4)).toList = tcs (List.replicate n zTst) := by
  rw [made_rep _ n 4 rfl (by decide)]
  exact rep_cat Tst.cs zTst n
theorem tcs_len (l : List Tst) : (tcs l).length = l.length * 4 := cat_len (f := Tst.cs) (n := 4) (fun _ => rfl) l
theorem rcs_len (l : List Rul) : (rcs l).length = l.length * 3 := cat_len (f := Rul.cs) (n := 3) (fun _ => rfl) l
theorem tcs_one (l : List Tst) : ∀ u ∈ tcs l, u.oneCell' = true := by
  induction l with
  | nil => intro u hu; cases hu
  | cons x l ih =>
    intro u hu
    simp only [cat, List.mem_append] at hu
    rcases hu with hu | hu
    · simp [Tst.cs] at hu; rcases hu with rfl | rfl | rfl | rfl <;> rfl
    · exact ih u hu
theorem frc {w w' : World} {a : Addr} {v : Value} (f : Fr nob w w') (h : w.cell? a = some v) : w'.cell? a = some v := by
  rw [World.cell?_of_block (f.block a.block (World.block_lt_of_cell? w _ h) (fun x => x))]; exact h
theorem lent_snoc (rs : List Rul) (gs : List Nat) (i g : Nat) (hg : gs.length = i) (hi : i < rs.length) : lentL (rs.take (i + 1)) (gs ++ [g]) = lentL (rs.take i) gs ++ [lentR rs[i] g] := by
  unfold lentL
  rw [List.take_succ_eq_append_getElem hi, List.zipWith_append (by simp; omega)]
  rfl
theorem tsts_snoc (rs : List Rul) (gs : List Nat) (i g : Nat) (hg : gs.length = i) (hi : i < rs.length) : tstsV (rs.take (i + 1)) (gs ++ [g]) = tstsV (rs.take i) gs ++ [.slice (some ⟨g, 0, none⟩) (rs[i].ts.length + 8) (rs[i].ts.length + 8)] := by
  unfold tstsV
  rw [List.take_succ_eq_append_getElem hi, List.zipWith_append (by simp; omega)]
  rfl
theorem lent_len (rs : List Rul) (gs : List Nat) (i : Nat) (hg : gs.length = i) (hi : i ≤ rs.length) : (lentL (rs.take i) gs).length = i := by
  unfold lentL
  simp; omega
theorem rep_drop1 (n m : Nat) (h : n = m + 1) : (rcs (List.replicate n zRul)).drop 3 = rcs (List.replicate m zRul) := by
  subst h
  rfl
theorem cut3 (A D : List Value) (a b c : Value) : A ++ [a, b, c] ++ D = (A ++ [a]) ++ ([b, c] ++ D) := by simp
theorem glue3 (A D : List Value) (a b b' c : Value) : (A ++ [a]) ++ [b'] ++ ([b, c] ++ D).drop 1 = A ++ [a, b', c] ++ D := by simp
structure PS (w0 w : World) (rs : List Rul) (R0 i : Nat) (ta : Option Addr) (tc : Nat) (gs : List Nat) : Prop where
  len : gs.length = i
  le : i ≤ rs.length
  rules : Own w 35 3 (some ⟨R0, 0, none⟩) (rs.length + 8) (rs.length + 8) (rcs (lentL (rs.take i) gs) ++ rcs (List.replicate (rs.length - i + 8) zRul))
  list : Own w 33 1 ta i tc (tstsV (rs.take i) gs)
  own : ∀ (j : Nat) (x : Rul) (g : Nat), rs[j]? = some x → gs[j]? = some g → Own w 101 4 (some ⟨g, 0, none⟩) (x.ts.length + 8) (x.ts.length + 8) (tcs x.ts ++ tcs (List.replicate 8 zTst))
  new : ∀ g ∈ gs, w0.heap.size ≤ g ∧ g < w.heap.size
  inc : gs.Pairwise (· < ·)
  newR : w0.heap.size ≤ R0
  newL : ∀ x, bk (.slice ta i tc) x → w0.heap.size ≤ x
  fr : Fr nob w0 w

theorem PS.to {w0 w w' : World} {rs : List Rul} {R0 i : Nat} {ta : Option Addr} {tc : Nat} {gs : List Nat} {D : Nat} {c : Array Value} (h : PS w0 w rs R0 i ta tc gs) (f : Fr (only D) w w') (hD : w0.heap.size ≤ D) (hk : w.heap[D]? = some (.cells c 38 (0, 0))) : PS w0 w' rs R0 i ta tc gs :=
  ⟨h.len, h.le, own_fr h.rules f (fun k hb e => own_ne h.rules hk (by decide) (by rw [← (show k = D from e)]; exact hb)), own_fr h.list f (fun k hb e => own_ne h.list hk (by decide) (by rw [← (show k = D from e)]; exact hb)),
    fun j x g h1 h2 => own_fr (h.own j x g h1 h2) f (fun k hb e => own_ne (h.own j x g h1 h2) hk (by decide) (by rw [← (show k = D from e)]; exact hb)),
    fun g hg => ⟨(h.new g hg).1, Nat.lt_of_lt_of_le (h.new g hg).2 f.size⟩, h.inc, h.newR, h.newL, fr_new h.fr hD f⟩

set_option maxRecDepth 100000 in
set_option maxHeartbeats 4000000 in
theorem policy_any (w : World) (arch els oth : Int) (ao : Option Addr) (cap : Nat) (rs : List Rul) (hv : RV w ao rs) (hl : rs.length ≤ 10000000) (ht : ∀ x ∈ rs, x.ts.length ≤ 10000000) (hz : ∀ x ∈ rs, x.ta = none → x.ts.length = 0) :
    Calls Tryz.prog 30 #[.agg #[.int .u32 arch, .slice ao rs.length cap, .int .u32 els, .int .u32 oth]] w fun e w' => ∃ R0 ta tc gs, e = .returned (.tuple #[.agg #[.int .u32 arch, .slice (some ⟨R0, 0, none⟩) rs.length (rs.length + 8), .int .u32 els, .int .u32 oth], .slice (some ⟨R0, 0, none⟩) (rs.length + 8) (rs.length + 8), .slice ta rs.length tc]) ∧
      PS w w' rs R0 rs.length ta tc gs := by
  obtain ⟨i0, hi0, hi1, hi2, hi3⟩ := info_parts info_rule'
  obtain ⟨j0, hj0, hj1, hj2, hj3⟩ := info_parts info_test'
  obtain ⟨k0, hk0, hk1, hk2, hk3⟩ := info_parts info_tests
  have HV := hide hv
  have HT := hide ht
  have HZ := hide hz
  clear hv ht hz
  go_enter Tryz.func30, Tryz.ntmps30
  go_wp2_with (at_make; refine wpList_make_full _ rfl _ _ 36 rfl 0 35 i0 _ 3 Tryz.underlying36 hi0 hi1 hi2 _ _ _ _ (rs.length + 8) rfl rfl (by omega) (by omega) ?b1 ?b2 ?b3 ?_)
  case b1 => rw [hi3]; omega
  case b2 => unfold maxLen; omega
  case b3 => omega
  intro w1 o1 g1
  have fa : Fr nob w ((w.alloc (.cells #[.int .u32 arch, .slice ao rs.length cap, .int .u32 els, .int .u32 oth] 38)).alloc (.cells #[.int .u32 0, .slice none 0 0, .int .u32 0, .int .u32 0] 38)) := ((Fr.refl _ w).alloc _).alloc _
  have ka : ((w.alloc (.cells #[.int .u32 arch, .slice ao rs.length cap, .int .u32 els, .int .u32 oth] 38)).alloc (.cells #[.int .u32 0, .slice none 0 0, .int .u32 0, .int .u32 0] 38)).heap[w.heap.size]? = some (.cells #[.int .u32 arch, .slice ao rs.length cap, .int .u32 els, .int .u32 oth] 38 (0, 0)) := blk_alloc (heap_alloc_new w _)
  have kb := two_new w (.cells #[.int .u32 arch, .slice ao rs.length cap, .int .u32 els, .int .u32 oth] 38) (.cells #[.int .u32 0, .slice none 0 0, .int .u32 0, .int .u32 0] 38)
  have sa : ((w.alloc (.cells #[.int .u32 arch, .slice ao rs.length cap, .int .u32 els, .int .u32 oth] 38)).alloc (.cells #[.int .u32 0, .slice none 0 0, .int .u32 0, .int .u32 0] 38)).heap.size = w.heap.size + 2 := by rw [World.size_alloc, World.size_alloc]
  have ka1 := (g1.block _ (by omega) (by simp)).trans ka
  have kb1 := (g1.block _ (by omega) (by simp)).trans kb
  have f1 : Fr nob w w1 := fa.grown g1 (fun k _ h => by cases h)
  have s1 : w.heap.size + 2 < w1.heap.size := own_lt o1 (by simp [bk, Value.ownBlock])
  rw [madeR] at o1
  have P0 : PS w w1 rs (w.heap.size + 2) 0 none 0 [] := ⟨rfl, Nat.zero_le _, by simpa [lentL, cat] using o1, World.ownsRow_nil _ _ _ _, fun j x g _ h => (by simp at h), fun g h => (by cases h), List.Pairwise.nil, (by omega), fun x h => (by simp [bk, Value.ownBlock] at h), f1⟩
  obtain ⟨D1, hD1⟩ : ∃ D, D = w.heap.size := ⟨_, rfl⟩
  obtain ⟨D2, hD2⟩ : ∃ D, D = w.heap.size + 1 := ⟨_, rfl⟩
  obtain ⟨R0, hR0⟩ : ∃ D, D = w.heap.size + 1 + 1 := ⟨_, rfl⟩
  rw [show w.heap.size + 2 = R0 by omega] at P0
  rw [← hR0]
  rw [← hD2] at kb1 ⊢
  rw [← hD1] at ka1 ⊢
  have HD : Hid (D1 = w.heap.size ∧ D2 = w.heap.size + 1 ∧ R0 = w.heap.size + 2) := ⟨hD1, hD2, hR0⟩
  have P0' := hide P0
  have KA := hide ka1
  have KB := hide kb1
  clear fa ka kb sa ka1 kb1 f1 s1 o1 g1 P0 hD1 hD2 hR0
  go_wp2_with fail
  go_loopw [6, 7] (fun ls y wr => ∃ (i : Nat) (ta : Option Addr) (tc : Nat) (gs : List Nat), y = .int .i64 i ∧ ls = .slice ta i tc ∧ PS w wr rs R0 i ta tc gs ∧ wr.heap[D1]? = some (.cells #[.int .u32 arch, .slice ao rs.length cap, .int .u32 els, .int .u32 oth] 38 (0, 0)) ∧ wr.heap[D2]? = some (.cells #[.int .u32 0, .slice none 0 0, .int .u32 0, .int .u32 0] 38 (0, 0))) (fun _ y _ => rs.length - (intOf y).toNat)
  case atStart => exact ⟨0, none, 0, [], rfl, rfl, P0'.out, KA.out, KB.out⟩
  case round =>
    clear P0' KA KB
    obtain ⟨i, ta, tc, gs, rfl, rfl, ps, ka, kb⟩ := hrel
    have p1 : wr.cell? ⟨D1, 1, none⟩ = some (.slice ao rs.length cap) := cell_blk ka rfl
    by_cases hlt : i < rs.length
    · obtain ⟨b, off, rfl, hc⟩ := view_at (f := Rul.cs) (n := 3) (fun _ => rfl) (by decide) HV.out.v hlt
      obtain ⟨x, hx⟩ : ∃ x, x = rs[i] := ⟨_, rfl⟩
      have hxm : x ∈ rs := by rw [hx]; exact List.getElem_mem hlt
      have V0 := hide (hc 0 (.int .u32 x.number) (by decide) (by rw [← hx]; rfl))
      have V1 := hide (hc 1 (.slice x.ta x.ts.length x.cap) (by decide) (by rw [← hx]; rfl))
      have V2 := hide (hc 2 (.int .u32 x.verdict) (by decide) (by rw [← hx]; rfl))
      have v0 : wr.cell? ⟨b, off + i * 3, none⟩ = some (.int .u32 x.number) := frc ps.fr V0.out
      have v1 := frc ps.fr V1.out
      have v2 := frc ps.fr V2.out
      have hbl : b < wr.heap.size := World.block_lt_of_cell? wr _ v0
      have hm := HT.out x hxm
      have hvx := (HV.out.t x hxm).fr0 ps.fr
      have HPS := hide ps
      have KA := hide ka
      have KB := hide kb
      have HXX := hide hx
      have HVX := hide hvx
      have HZX := hide (HZ.out x hxm)
      clear ps ka kb hc hx hvx hxm
      go_wp2_with (at_make; refine wpList_make_full _ rfl _ _ 33 rfl 0 101 j0 _ 4 Tryz.underlying33 hj0 hj1 hj2 _ _ _ _ (x.ts.length + 8) rfl rfl (by omega) (by omega) ?b1 ?b2 ?b3 ?_)
      case b1 => rw [hj3]; omega
      case b2 => unfold maxLen; omega
      case b3 => omega
      intro w2 o2 g2
      rw [madeT] at o2
      have f2 : Fr nob wr w2 := (Fr.refl _ wr).grown g2 (fun k _ h => by cases h)
      have s2 : wr.heap.size < w2.heap.size := own_lt o2 (by simp [bk, Value.ownBlock])
      obtain ⟨w3, hrun, o3, f3⟩ := run_copy_into (P := Tryz.prog) (w := w2) 33 33 3 101 j0 4 Tryz.underlying33 hj0 hj2 wr.heap.size (x.ts.length + 8) (x.ts.length + 8) _ o2 x.ta x.ts.length x.cap (tcs x.ts) (HVX.out.fr0 f2) (tcs_len _) (by omega) (tcs_one _) HZX.out (by decide)
      have hz8 : (tcs (List.replicate (x.ts.length + 8) zTst)).drop (x.ts.length * 4) = tcs (List.replicate 8 zTst) := by
        show (cat Tst.cs _).drop _ = cat Tst.cs _
        rw [← rep_cat, ← rep_cat]
        exact rep_drop zTst.cs x.ts.length 8
      rw [hz8] at o3
      have f23 : Fr nob wr w3 := f2.step f3 (fun k hk e => by omega)
      have s3 := f3.size
      have p3 : w3.cell? ⟨D1, 1, none⟩ = some (.slice (some ⟨b, off, none⟩) rs.length cap) := cell_blk (f23.heap KA.out (fun h => h)) rfl
      have q1 : w2.cell? ⟨D1, 1, none⟩ = some (.slice (some ⟨b, off, none⟩) rs.length cap) := cell_blk (f2.heap KA.out (fun h => h)) rfl
      have q2 : w2.cell? ⟨b, off + i * 3 + 1, none⟩ = some (.slice x.ta x.ts.length x.cap) := by rw [World.cell?_of_block (f2.block b hbl (fun h => h))]; exact v1
      have F23 := hide f23
      have O3 := hide o3
      have hrg : wr.heap.size < w3.heap.size := by omega
      clear hz8 o2 g2 f2 o3 f3 f23 s2 s3
      go_upto_region 8 with (at_builtin; refine wpList_copy_run rfl _ _ 33 33 rfl _ _ _ w3 rfl rfl hrun ?_)
      clear hrun q1 q2 v0 v1 v2 p1 p3
      have ol := (own_fr HPS.out.list F23.out (fun _ _ h => h)).alloc (.cells #[.slice (some ⟨wr.heap.size, 0, none⟩) (x.ts.length + 8) (x.ts.length + 8)] 33)
      have OL := hide ol
      have hil := HPS.out.le
      clear ol
      go_upto_region 9 with (at_builtin; refine wpList_append_keep _ rfl _ _ 79 rfl 33 k0 _ 1 24 Tryz.underlying79 hk0 hk1 hk2 hk3 rfl (by decide) ta i tc (tstsV (rs.take i) gs) rfl OL.out ⟨w3.heap.size, 0, none⟩ 1 1 [.slice (some ⟨wr.heap.size, 0, none⟩) (x.ts.length + 8) (x.ts.length + 8)] rfl rfl ?c1 ?c2 (by decide) ?c3 ?c4 (w3.heap.size + 1) (World.size_alloc _ _) ?_)
      case c1 => exact World.news_of_block (heap_alloc_new w3 _)
      case c2 => intro u hu; simp at hu; subst hu; rfl
      case c3 => unfold maxLen; omega
      case c4 => omega
      intro g2 c2 w4 o4 _ f4 hat
      have q := HPS.out
      have F3 := F23.out
      have fA : Fr nob wr (w3.alloc (.cells #[.slice (some ⟨wr.heap.size, 0, none⟩) (x.ts.length + 8) (x.ts.length + 8)] 33)) := F3.alloc _
      have fW : Fr nob w w4 := (q.fr.trans fA).step f4 (fun k hk e => by have := q.newL k e; omega)
      have r4 : Own w4 35 3 (some ⟨R0, 0, none⟩) (rs.length + 8) (rs.length + 8) (rcs (lentL (rs.take i) gs) ++ rcs (List.replicate (rs.length - i + 8) zRul)) :=
        own_fr (own_fr q.rules fA (fun _ _ h => h)) f4 (own_apart (own_fr q.rules fA (fun _ _ h => h)) OL.out (by decide))
      have t4 : ∀ (j : Nat) (y : Rul) (gg : Nat), rs[j]? = some y → gs[j]? = some gg → Own w4 101 4 (some ⟨gg, 0, none⟩) (y.ts.length + 8) (y.ts.length + 8) (tcs y.ts ++ tcs (List.replicate 8 zTst)) := fun j y gg h1 h2 =>
        own_fr (own_fr (q.own j y gg h1 h2) fA (fun _ _ h => h)) f4 (own_apart (own_fr (q.own j y gg h1 h2) fA (fun _ _ h => h)) OL.out (by decide))
      have n4 : Own w4 101 4 (some ⟨wr.heap.size, 0, none⟩) (x.ts.length + 8) (x.ts.length + 8) (tcs x.ts ++ tcs (List.replicate 8 zTst)) := own_fr (O3.out.alloc _) f4 (own_apart (O3.out.alloc _) OL.out (by decide))
      have ka4 := f4.heap (fA.heap KA.out (fun h => h)) (own_ne OL.out (fA.heap KA.out (fun h => h)) (by decide))
      have kb4 := f4.heap (fA.heap KB.out (fun h => h)) (own_ne OL.out (fA.heap KB.out (fun h => h)) (by decide))
      have s4 := f4.size
      rw [World.size_alloc] at s4
      have hlw : ∀ y, bk (.slice (some ⟨g2, 0, none⟩) (i + 1) c2) y → w.heap.size ≤ y := by
        intro y hy
        simp only [bk, Value.ownBlock, Option.some.injEq] at hy
        have h9 := q.fr.size
        rcases hat with e | e
        · have := q.newL g2 e; omega
        · omega
      have e0 : x = rs[i] := HXX.out
      rw [e0] at o4
      rw [← tsts_snoc rs gs i wr.heap.size q.len hlt] at o4
      have v0 : w4.cell? ⟨b, off + i * 3, none⟩ = some (.int .u32 x.number) := frc fW V0.out
      have v1 := frc fW V1.out
      have v2 := frc fW V2.out
      have hbl4 : b < w4.heap.size := World.block_lt_of_cell? w4 _ v0
      have p1 : w4.cell? ⟨D1, 1, none⟩ = some (.slice (some ⟨b, off, none⟩) rs.length cap) := cell_blk ka4 rfl
      have hD1 : D1 < w4.heap.size := World.block_lt_of_cell? w4 _ p1
      have hR0 : R0 < w4.heap.size := own_lt r4 (by simp [bk, Value.ownBlock])
      have hlenr := own_len r4
      have hl1 := rcs_len (lentL (rs.take i) gs)
      rw [lent_len rs gs i q.len q.le] at hl1
      have hfz : ∀ z, w4.frozen? ⟨R0, z, none⟩ = false := fun z => r4.frozenAt z
      obtain ⟨u0, hu0⟩ : ∃ u, w4.cell? ⟨R0, i * 3, none⟩ = some u := ⟨_, own_cell r4 _ (by omega)⟩
      obtain ⟨u1, hu1⟩ : ∃ u, w4.cell? ⟨R0, i * 3 + 1, none⟩ = some u := ⟨_, own_cell r4 _ (by omega)⟩
      obtain ⟨u2, hu2⟩ : ∃ u, w4.cell? ⟨R0, i * 3 + 2, none⟩ = some u := ⟨_, own_cell r4 _ (by omega)⟩
      have hbw : b < w.heap.size := World.block_lt_of_cell? w _ V0.out
      have hRb : R0 ≠ b := by have := q.newR; omega
      have hRD : R0 ≠ D1 := by have := HD.out; omega
      have R4 := hide r4
      have T4 := hide t4
      have N4 := hide n4
      have O4 := hide o4
      have KA4 := hide ka4
      have KB4 := hide kb4
      have FW := hide fW
      have HLW := hide hlw
      have HL1 := hide hl1
      have S4 := hide s4
      clear r4 t4 n4 o4 ka4 kb4 fW hlw hl1 hlenr s4 f4 hat fA F3 q OL O3 e0
      go_wp2
      have q := HPS.out
      have e0 : x = rs[i] := HXX.out
      have f5 : Fr (only R0) w4 ((((w4.setCell ⟨R0, i * 3, none⟩ (.int .u32 x.number)).setCell ⟨R0, i * 3 + 1, none⟩ (.slice x.ta x.ts.length x.cap)).setCell ⟨R0, i * 3 + 2, none⟩ (.int .u32 x.verdict)).setCell ⟨R0, i * 3 + 1, none⟩ (.slice (some ⟨wr.heap.size, 0, none⟩) x.ts.length (x.ts.length + 8))) := only_set (only_set (only_set (only_set (Fr.refl _ w4) _ _) _ _) _ _) _ _
      have r5 := own_set3 (p := i * 3) (q := i * 3 + 1) (r := i * 3 + 2) R4.out (by rw [rcs_len, List.length_replicate]; omega) (by have := HL1.out; omega) (by have := HL1.out; omega) (by have := HL1.out; omega) (.int .u32 x.number) (.slice x.ta x.ts.length x.cap) (.int .u32 x.verdict)
      rw [rep_drop1 (rs.length - i + 8) (rs.length - (i + 1) + 8) (by omega), cut3] at r5
      have r6 := own_set1 (p := i * 3 + 1) r5 (by simp) (by have := HL1.out; simp; omega) (.slice (some ⟨wr.heap.size, 0, none⟩) x.ts.length (x.ts.length + 8))
      rw [glue3, show [Value.int .u32 x.number, .slice (some ⟨wr.heap.size, 0, none⟩) x.ts.length (x.ts.length + 8), .int .u32 x.verdict] = rcs [lentR x wr.heap.size] from rfl, ← cat_append, e0, ← lent_snoc rs gs i wr.heap.size q.len hlt] at r6
      have hS : wr.heap.size < w4.heap.size := by have := S4.out; omega
      refine ⟨⟨i + 1, _, _, gs ++ [wr.heap.size], by go_num, rfl, ⟨?_, hlt, ?_, ?_, ?_, ?_, ?_, q.newR, HLW.out, fr_new FW.out q.newR f5⟩, f5.heap KA4.out (fun e => hRD e.symm), f5.heap KB4.out (fun e => by have := HD.out; have e' : D2 = R0 := e; omega)⟩, by simp [intOf]; omega⟩
      · simp [q.len]
      · rw [e0]; exact r6
      · exact own_fr O4.out f5 (fun k hk e => own_apart O4.out R4.out (by decide) k hk (by rw [show k = R0 from e]; simp [bk, Value.ownBlock]))
      · intro j y gg hy hgg
        have hO : Own w4 101 4 (some ⟨gg, 0, none⟩) (y.ts.length + 8) (y.ts.length + 8) (tcs y.ts ++ tcs (List.replicate 8 zTst)) := by
          rcases Nat.lt_or_ge j i with hj | hj
          · rw [List.getElem?_append_left (by rw [q.len]; exact hj)] at hgg
            exact T4.out j y gg hy hgg
          · rw [List.getElem?_append_right (by rw [q.len]; exact hj), q.len] at hgg
            obtain rfl : j = i := by
              rcases Nat.lt_or_ge i j with h | h
              · rw [List.getElem?_eq_none (by simp; omega)] at hgg; cases hgg
              · omega
            simp only [Nat.sub_self, List.getElem?_cons_zero, Option.some.injEq] at hgg
            rw [List.getElem?_eq_getElem hlt, ← e0, Option.some.injEq] at hy
            subst hgg hy
            exact N4.out
        exact own_fr hO f5 (fun k hk e => own_apart hO R4.out (by decide) k hk (by rw [show k = R0 from e]; simp [bk, Value.ownBlock]))
      · intro gg hgg
        have h5 := f5.size
        rcases List.mem_append.1 hgg with h | h
        · have := q.new gg h; omega
        · simp at h; have := q.fr.size; omega
      · rw [List.pairwise_append]
        exact ⟨q.inc, by simp, fun a ha c hc => by simp at hc; have := (q.new a ha).2; omega⟩
    · have hie : i = rs.length := by have := ps.le; omega
      subst hie
      have d0 : wr.cell? ⟨D1, 0, none⟩ = some (.int .u32 arch) := cell_blk ka rfl
      have d2 : wr.cell? ⟨D1, 2, none⟩ = some (.int .u32 els) := cell_blk ka rfl
      have d3 : wr.cell? ⟨D1, 3, none⟩ = some (.int .u32 oth) := cell_blk ka rfl
      have r0 : wr.cell? ⟨D2, 0, none⟩ = some (.int .u32 0) := cell_blk kb rfl
      have r1 : wr.cell? ⟨D2, 1, none⟩ = some (.slice none 0 0) := cell_blk kb rfl
      have r2 : wr.cell? ⟨D2, 2, none⟩ = some (.int .u32 0) := cell_blk kb rfl
      have r3 : wr.cell? ⟨D2, 3, none⟩ = some (.int .u32 0) := cell_blk kb rfl
      have rz : ∀ z, wr.frozen? ⟨D2, z, none⟩ = false := fun z => frozen_blk kb
      have hd1 : D1 < wr.heap.size := World.block_lt_of_cell? wr _ d0
      have hd2 : D2 < wr.heap.size := World.block_lt_of_cell? wr _ r0
      have l0 : (0 : Int) ≤ (rs.length : Int) := by omega
      have l1 : (rs.length : Int) ≤ (rs.length : Int) + 8 := by omega
      have l2 : (rs.length : Int) ≤ ((rs.length + 8 : Nat) : Int) := by omega
      have HPS := hide ps
      have KB := hide kb
      clear ps kb ka hlt
      go_wp2
      have f9 : Fr (only D2) wr (((((wr.setCell ⟨D2, 0, none⟩ (.int .u32 arch)).setCell ⟨D2, 1, none⟩ (.slice (some ⟨R0, 0, none⟩) rs.length (rs.length + 8))).setCell ⟨D2, 2, none⟩ (.int .u32 els)).setCell ⟨D2, 3, none⟩ (.int .u32 oth)).alloc (.cells #[.int .u32 arch, .slice (some ⟨R0, 0, none⟩) rs.length (rs.length + 8), .int .u32 els, .int .u32 oth] 38)) := (only_set (only_set (only_set (only_set (Fr.refl _ wr) _ _) _ _) _ _) _ _).alloc _
      have k9 : (((((wr.setCell ⟨D2, 0, none⟩ (.int .u32 arch)).setCell ⟨D2, 1, none⟩ (.slice (some ⟨R0, 0, none⟩) rs.length (rs.length + 8))).setCell ⟨D2, 2, none⟩ (.int .u32 els)).setCell ⟨D2, 3, none⟩ (.int .u32 oth)).alloc (.cells #[.int .u32 arch, .slice (some ⟨R0, 0, none⟩) rs.length (rs.length + 8), .int .u32 els, .int .u32 oth] 38)).heap[D2]? = some (.cells #[.int .u32 arch, .slice (some ⟨R0, 0, none⟩) rs.length (rs.length + 8), .int .u32 els, .int .u32 oth] 38 (0, 0)) :=
        blk_alloc (heap_setCell_same _ _ _ _ _ _ (heap_setCell_same _ _ _ _ _ _ (heap_setCell_same _ _ _ _ _ _ (heap_setCell_same _ _ _ _ _ _ KB.out))))
      have P9 := HPS.out.to f9 (by have := HD.out; omega) KB.out
      obtain ⟨w9, hw9⟩ : ∃ w9, w9 = ((((wr.setCell ⟨D2, 0, none⟩ (.int .u32 arch)).setCell ⟨D2, 1, none⟩ (.slice (some ⟨R0, 0, none⟩) rs.length (rs.length + 8))).setCell ⟨D2, 2, none⟩ (.int .u32 els)).setCell ⟨D2, 3, none⟩ (.int .u32 oth)).alloc (.cells #[.int .u32 arch, .slice (some ⟨R0, 0, none⟩) rs.length (rs.length + 8), .int .u32 els, .int .u32 oth] 38) := ⟨_, rfl⟩
      rw [← hw9] at P9 k9 ⊢
      have x0 : w9.cell? ⟨D2, 0, none⟩ = some (.int .u32 arch) := cell_blk k9 rfl
      have x1 : w9.cell? ⟨D2, 1, none⟩ = some (.slice (some ⟨R0, 0, none⟩) rs.length (rs.length + 8)) := cell_blk k9 rfl
      have x2 : w9.cell? ⟨D2, 2, none⟩ = some (.int .u32 els) := cell_blk k9 rfl
      have x3 : w9.cell? ⟨D2, 3, none⟩ = some (.int .u32 oth) := cell_blk k9 rfl
      exact bodyPost_ret (v := .tuple #[.agg #[.int .u32 arch, .slice (some ⟨R0, 0, none⟩) rs.length (rs.length + 8), .int .u32 els, .int .u32 oth], .slice (some ⟨R0, 0, none⟩) (rs.length + 8) (rs.length + 8), .slice ta rs.length tc]) (by simp [results, Tryz.results30, go_sem, x0, x1, x2, x3]) rfl ⟨R0, ta, tc, gs, rfl, P9⟩
#print axioms policy_any
end Go.Proofs.YtjgcfffepkmojabGreat
