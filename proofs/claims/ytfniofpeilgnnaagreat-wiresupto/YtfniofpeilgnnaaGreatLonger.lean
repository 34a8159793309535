import Derived.Test.YtfniofpeilgnnaaGreatMarks
import Derived.Test.YtfniofpeilgnnaaGreatAppend
import Derived.Deep.RegionHeld3
import Derived.Deep.DeepCutAuto
namespace Go.Proofs.YtfniofpeilgnnaaGreat
open Go.RowKit
set_option linter.unusedVariables false

theorem info_u8 : (Tryz.prog.info? 5).map (fun i => (i.zero, i.size, i.bytes)) = some (some (.int .u8 0), 1, 1) := by kernel_rfl
theorem info_insn : (Tryz.prog.info? 29).map (fun i => (i.zero, i.size, i.bytes)) = some (some (.agg #[.int .u16 0, .int .u8 0, .int .u8 0, .int .u32 0]), 4, 8) := by kernel_rfl
theorem info_rule : (Tryz.prog.info? 35).map (fun i => (i.zero, i.size, i.bytes)) = some (some (.agg #[.int .u32 0, .slice none 0 0, .int .u32 0]), 3, 40) := by kernel_rfl
theorem info_test : (Tryz.prog.info? 95).map (fun i => (i.zero, i.size, i.bytes)) = some (some (.agg #[.int .i64 0, .int .i64 0, .int .u64 0, .int .u64 0]), 4, 32) := by kernel_rfl

theorem Fr.drewN {S : Nat → Prop} {a w : World} (h : Fr S a w) (n : Nat) : Fr S a (w.drewN n) := ⟨h.os, h.tape, h.output, h.size, h.block⟩
def nilS : Sl := ⟨none, 0, 0, []⟩

/-- The new slice lies where the old one lies, or in a block that is new. -/
def Lie (w : World) (s s' : Sl) : Prop := ∀ k, bk (.slice s'.a s'.n s'.c) k → bk (.slice s.a s.n s.c) k ∨ w.heap.size ≤ k
theorem lie_nil (w : World) (s : Sl) : Lie w s nilS := fun k hk => by simp [bk, nilS, Value.ownBlock] at hk
theorem lie_some {w : World} {s : Sl} {g n c H : Nat} {xs : List Value} (h : bk (.slice s.a s.n s.c) g ∨ g = H) (hH : w.heap.size ≤ H) : Lie w s ⟨some ⟨g, 0, none⟩, n, c, xs⟩ := fun k hk => by
  simp only [bk, Value.ownBlock, Option.some.injEq] at hk
  subst hk
  rcases h with h | h
  · exact .inl h
  · exact .inr (by omega)

/-- On the way through 'longer': the old hold stands, the new one is being filled. -/
structure LM (w : World) (hb gb : Nat) (m : Int) (b i r t b' i' r' t' : Sl) (wx : World) : Prop where
  old : HoldS wx hb m b i r t
  new : HoldS wx gb m b' i' r' t'
  fr : Fr (sls b i r t) w wx
  lie : Lie w b b' ∧ Lie w i i' ∧ Lie w r r' ∧ Lie w t t'

theorem LM.drew {w : World} {hb gb : Nat} {m : Int} {b i r t b' i' r' t' : Sl} {wx : World} (h : LM w hb gb m b i r t b' i' r' t' wx) : LM w hb gb m b i r t b' i' r' t' wx.drew :=
  ⟨⟨h.old.blk, h.old.ob, h.old.oi, h.old.or, h.old.ot⟩, ⟨h.new.blk, h.new.ob, h.new.oi, h.new.or, h.new.ot⟩, h.fr.drew, h.lie⟩

theorem own_keep {wc w1 : World} {el : Obj} {e e' : TypeId} {size size' : Nat} {v v' : Value} {n n' : Nat} {xs xs' : List Value} (h : wc.ownsRow 0 e size v n xs) (hs : wc.ownsRow 0 e' size' v' n' xs') (ne : e ≠ e')
    (f : Fr (bk v') (wc.alloc el) w1) : w1.ownsRow 0 e size v n xs :=
  own_fr (h.alloc el) f (fun k hk => own_apart (h.alloc el) (hs.alloc el) ne k hk)
theorem own_put {w1 : World} {e t : TypeId} {size gb j : Nat} {v u : Value} {n : Nat} {xs : List Value} {c : Array Value} {f : Nat × Nat} (h : w1.ownsRow 0 e size v n xs) (hg : w1.heap[gb]? = some (.cells c t f)) (ne : e ≠ t) :
    (w1.setCell ⟨gb, j, none⟩ u).ownsRow 0 e size v n xs :=
  own_fr h (fr_set w1 gb j u) (fun k hk hk' => own_ne h (by rw [← hk'] at hg; exact hg) ne hk)
theorem blk_alloc {w : World} {o o' : Obj} {k : Nat} (h : w.heap[k]? = some o) : (w.alloc o').heap[k]? = some o := (Below.heap_alloc w o' k (Array.getElem?_eq_some_iff.1 h).1).trans h
theorem blk_put {w1 : World} {gb j k : Nat} {u : Value} {o : Obj} (h : w1.heap[k]? = some o) (hne : k ≠ gb) : (w1.setCell ⟨gb, j, none⟩ u).heap[k]? = some o := (fr_set w1 gb j u).heap h hne

section
variable {w : World} {hb gb : Nat} {m : Int} {b i r t b' i' r' t' : Sl} {wc w1 : World} {el : Obj} {g cap' : Nat} {x : List Value}
theorem LM.stepb (h : LM w hb gb m b i r t b' i' r' t' wc) (hne : hb ≠ gb) (hgb : w.heap.size ≤ gb) (o' : Own w1 5 1 (some ⟨g, 0, none⟩) (b.n + 1) cap' (b.xs ++ x)) (o : Own w1 5 1 b.a b.n b.c b.xs)
    (f : Fr (bk (.slice b.a b.n b.c)) (wc.alloc el) w1) (hat : bk (.slice b.a b.n b.c) g ∨ g = wc.heap.size + 1) :
    LM w hb gb m b i r t ⟨some ⟨g, 0, none⟩, b.n + 1, cap', b.xs ++ x⟩ i' r' t' (w1.setCell ⟨gb, 0, none⟩ (.slice (some ⟨g, 0, none⟩) (b.n + 1) cap')) := by
  have gk := f.heap (blk_alloc h.new.blk) (own_ne (h.old.ob.alloc el) (blk_alloc h.new.blk) (by decide))
  have hk := f.heap (blk_alloc h.old.blk) (own_ne (h.old.ob.alloc el) (blk_alloc h.old.blk) (by decide))
  have hsz := h.fr.size
  refine ⟨⟨blk_put hk hne, own_put o gk (by decide), own_put (own_keep h.old.oi h.old.ob (by decide) f) gk (by decide), own_put (own_keep h.old.or h.old.ob (by decide) f) gk (by decide), own_put (own_keep h.old.ot h.old.ob (by decide) f) gk (by decide)⟩,
    ⟨heap_set gk, own_put o' gk (by decide), own_put (own_keep h.new.oi h.old.ob (by decide) f) gk (by decide), own_put (own_keep h.new.or h.old.ob (by decide) f) gk (by decide), own_put (own_keep h.new.ot h.old.ob (by decide) f) gk (by decide)⟩, ?_, ?_⟩
  · exact ((h.fr.alloc el).step f (fun k _ hk => .inl hk)).step (fr_set _ _ _ _) (fun k hk e => by omega)
  · exact ⟨lie_some hat (by omega), h.lie.2⟩
theorem LM.stepi (h : LM w hb gb m b i r t b' i' r' t' wc) (hne : hb ≠ gb) (hgb : w.heap.size ≤ gb) (o' : Own w1 29 4 (some ⟨g, 0, none⟩) (i.n + 1) cap' (i.xs ++ x)) (o : Own w1 29 4 i.a i.n i.c i.xs)
    (f : Fr (bk (.slice i.a i.n i.c)) (wc.alloc el) w1) (hat : bk (.slice i.a i.n i.c) g ∨ g = wc.heap.size + 1) :
    LM w hb gb m b i r t b' ⟨some ⟨g, 0, none⟩, i.n + 1, cap', i.xs ++ x⟩ r' t' (w1.setCell ⟨gb, 1, none⟩ (.slice (some ⟨g, 0, none⟩) (i.n + 1) cap')) := by
  have gk := f.heap (blk_alloc h.new.blk) (own_ne (h.old.oi.alloc el) (blk_alloc h.new.blk) (by decide))
  have hk := f.heap (blk_alloc h.old.blk) (own_ne (h.old.oi.alloc el) (blk_alloc h.old.blk) (by decide))
  have hsz := h.fr.size
  refine ⟨⟨blk_put hk hne, own_put (own_keep h.old.ob h.old.oi (by decide) f) gk (by decide), own_put o gk (by decide), own_put (own_keep h.old.or h.old.oi (by decide) f) gk (by decide), own_put (own_keep h.old.ot h.old.oi (by decide) f) gk (by decide)⟩,
    ⟨heap_set gk, own_put (own_keep h.new.ob h.old.oi (by decide) f) gk (by decide), own_put o' gk (by decide), own_put (own_keep h.new.or h.old.oi (by decide) f) gk (by decide), own_put (own_keep h.new.ot h.old.oi (by decide) f) gk (by decide)⟩, ?_, ?_⟩
  · exact ((h.fr.alloc el).step f (fun k _ hk => .inr (.inl hk))).step (fr_set _ _ _ _) (fun k hk e => by omega)
  · exact ⟨h.lie.1, lie_some hat (by omega), h.lie.2.2⟩
theorem LM.stepr (h : LM w hb gb m b i r t b' i' r' t' wc) (hne : hb ≠ gb) (hgb : w.heap.size ≤ gb) (o' : Own w1 35 3 (some ⟨g, 0, none⟩) (r.n + 1) cap' (r.xs ++ x)) (o : Own w1 35 3 r.a r.n r.c r.xs)
    (f : Fr (bk (.slice r.a r.n r.c)) (wc.alloc el) w1) (hat : bk (.slice r.a r.n r.c) g ∨ g = wc.heap.size + 1) :
    LM w hb gb m b i r t b' i' ⟨some ⟨g, 0, none⟩, r.n + 1, cap', r.xs ++ x⟩ t' (w1.setCell ⟨gb, 2, none⟩ (.slice (some ⟨g, 0, none⟩) (r.n + 1) cap')) := by
  have gk := f.heap (blk_alloc h.new.blk) (own_ne (h.old.or.alloc el) (blk_alloc h.new.blk) (by decide))
  have hk := f.heap (blk_alloc h.old.blk) (own_ne (h.old.or.alloc el) (blk_alloc h.old.blk) (by decide))
  have hsz := h.fr.size
  refine ⟨⟨blk_put hk hne, own_put (own_keep h.old.ob h.old.or (by decide) f) gk (by decide), own_put (own_keep h.old.oi h.old.or (by decide) f) gk (by decide), own_put o gk (by decide), own_put (own_keep h.old.ot h.old.or (by decide) f) gk (by decide)⟩,
    ⟨heap_set gk, own_put (own_keep h.new.ob h.old.or (by decide) f) gk (by decide), own_put (own_keep h.new.oi h.old.or (by decide) f) gk (by decide), own_put o' gk (by decide), own_put (own_keep h.new.ot h.old.or (by decide) f) gk (by decide)⟩, ?_, ?_⟩
  · exact ((h.fr.alloc el).step f (fun k _ hk => .inr (.inr (.inl hk)))).step (fr_set _ _ _ _) (fun k hk e => by omega)
  · exact ⟨h.lie.1, h.lie.2.1, lie_some hat (by omega), h.lie.2.2.2⟩
theorem LM.stept (h : LM w hb gb m b i r t b' i' r' t' wc) (hne : hb ≠ gb) (hgb : w.heap.size ≤ gb) (o' : Own w1 95 4 (some ⟨g, 0, none⟩) (t.n + 1) cap' (t.xs ++ x)) (o : Own w1 95 4 t.a t.n t.c t.xs)
    (f : Fr (bk (.slice t.a t.n t.c)) (wc.alloc el) w1) (hat : bk (.slice t.a t.n t.c) g ∨ g = wc.heap.size + 1) :
    LM w hb gb m b i r t b' i' r' ⟨some ⟨g, 0, none⟩, t.n + 1, cap', t.xs ++ x⟩ (w1.setCell ⟨gb, 3, none⟩ (.slice (some ⟨g, 0, none⟩) (t.n + 1) cap')) := by
  have gk := f.heap (blk_alloc h.new.blk) (own_ne (h.old.ot.alloc el) (blk_alloc h.new.blk) (by decide))
  have hk := f.heap (blk_alloc h.old.blk) (own_ne (h.old.ot.alloc el) (blk_alloc h.old.blk) (by decide))
  have hsz := h.fr.size
  refine ⟨⟨blk_put hk hne, own_put (own_keep h.old.ob h.old.ot (by decide) f) gk (by decide), own_put (own_keep h.old.oi h.old.ot (by decide) f) gk (by decide), own_put (own_keep h.old.or h.old.ot (by decide) f) gk (by decide), own_put o gk (by decide)⟩,
    ⟨heap_set gk, own_put (own_keep h.new.ob h.old.ot (by decide) f) gk (by decide), own_put (own_keep h.new.oi h.old.ot (by decide) f) gk (by decide), own_put (own_keep h.new.or h.old.ot (by decide) f) gk (by decide), own_put o' gk (by decide)⟩, ?_, ?_⟩
  · exact ((h.fr.alloc el).step f (fun k _ hk => .inr (.inr (.inr hk)))).step (fr_set _ _ _ _) (fun k hk e => by omega)
  · exact ⟨h.lie.1, h.lie.2.1, h.lie.2.2.1, lie_some hat (by omega)⟩
end

theorem LM.nb {w : World} {hb gb : Nat} {m : Int} {b i r t b' i' r' t' : Sl} {wc w1 : World} {el : Obj} (h : LM w hb gb m b i r t b' i' r' t' wc) {e : TypeId} {size n : Nat} {v : Value} {xs : List Value} (o : wc.ownsRow 0 e size v n xs) (ne : e ≠ 74)
    (f : Fr (bk v) (wc.alloc el) w1) : w1.heap[gb]? = some (.cells #[.slice b'.a b'.n b'.c, .slice i'.a i'.n i'.c, .slice r'.a r'.n r'.c, .slice t'.a t'.n t'.c, .int .i64 m] 74 (0, 0)) :=
  f.heap (blk_alloc h.new.blk) (own_ne (o.alloc el) (blk_alloc h.new.blk) ne)
theorem LM.hb' {w : World} {hb gb : Nat} {m : Int} {b i r t b' i' r' t' : Sl} {wc w1 : World} {el : Obj} (h : LM w hb gb m b i r t b' i' r' t' wc) {e : TypeId} {size n : Nat} {v : Value} {xs : List Value} (o : wc.ownsRow 0 e size v n xs) (ne : e ≠ 74)
    (f : Fr (bk v) (wc.alloc el) w1) : w1.heap[hb]? = some (.cells #[.slice b.a b.n b.c, .slice i.a i.n i.c, .slice r.a r.n r.c, .slice t.a t.n t.c, .int .i64 m] 74 (0, 0)) :=
  f.heap (blk_alloc h.old.blk) (own_ne (o.alloc el) (blk_alloc h.old.blk) ne)
theorem Fr.undrew {S : Nat → Prop} {a w : World} (h : Fr S a.drew w) : Fr S a w := ⟨h.os, h.tape, h.output, h.size, h.block⟩
theorem one_of (l : List Value) (h : l.all Value.oneCell' = true) : ∀ u ∈ l, u.oneCell' = true := fun u hu => List.all_eq_true.1 h u hu

theorem wrapI64n (m : Int) (h0 : 0 ≤ m) (h1 : m ≤ 1000000000) : IntKind.i64.wrap (-m) = -m := by
  simp [IntKind.wrap_i64]; omega
theorem wrapU32 (m : Int) (h0 : 0 ≤ m) (h1 : m ≤ 1000000000) : IntKind.u32.wrap m = m := by
  simp [IntKind.wrap, IntKind.bits, IntKind.signed]; omega
set_option maxRecDepth 100000 in
set_option maxHeartbeats 2000000 in
theorem longer_any (w : World) (hb : Nat) (m : Int) (b i r t : Sl) (h : HoldS w hb m b i r t) (h0 : 0 ≤ m) (h1 : m ≤ 1000000000) (hs : small 1000000000 b i r t) :
    Calls Tryz.prog 46 #[.pointer (some ⟨hb, 0, none⟩)] w fun e w' => e = .returned (.pointer (some ⟨w.heap.size, 0, none⟩)) ∧ ∃ gB cB gI cI gR cR gT cT,
      LM w hb w.heap.size m b i r t ⟨some ⟨gB, 0, none⟩, b.n + 1, cB, b.xs ++ [.int .u8 (sgn m b.n)]⟩ ⟨some ⟨gI, 0, none⟩, i.n + 1, cI, i.xs ++ mI m⟩ ⟨some ⟨gR, 0, none⟩, r.n + 1, cR, r.xs ++ mR m⟩ ⟨some ⟨gT, 0, none⟩, t.n + 1, cT, t.xs ++ mT m⟩ w' := by
  obtain ⟨bb, bi, br, bt⟩ := hs
  have hlt := h.lt
  have c0 : w.cell? ⟨hb, 0, none⟩ = some (.slice b.a b.n b.c) := cell_blk h.blk rfl
  have c4 : w.cell? ⟨hb, 4, none⟩ = some (.int .i64 m) := cell_blk h.blk rfl
  have hstart : ∀ nq, LM w hb w.heap.size m b i r t nilS nilS nilS nilS ((w.alloc (.cells #[.slice none 0 0, .slice none 0 0, .slice none 0 0, .slice none 0 0, .int .i64 m] 74)).drewN nq) := fun nq =>
    have f : Fr nob w ((w.alloc (.cells #[.slice none 0 0, .slice none 0 0, .slice none 0 0, .slice none 0 0, .int .i64 m] 74)).drewN nq) := ((Fr.refl _ w).alloc _).drewN nq
    ⟨h.fr f (fun h => h) (fun _ _ h => h), ⟨heap_alloc_new w _, World.ownsRow_nil _ _ _ _, World.ownsRow_nil _ _ _ _, World.ownsRow_nil _ _ _ _, World.ownsRow_nil _ _ _ _⟩, f.mono (fun _ _ h => h.elim), ⟨lie_nil _ _, lie_nil _ _, lie_nil _ _, lie_nil _ _⟩⟩
  obtain ⟨i0, hi, hz0, hz1, hz2⟩ := info_parts info_u8
  go_enter Tryz.func46, Tryz.ntmps46
  go_upto_region 2 with fail
  go_cut [4] (fun x wx => x = .int .u8 (sgn m b.n) ∧ LM w hb w.heap.size m b i r t nilS nilS nilS nilS wx)
  case first =>
    go_quiet ((go_at_call 42; exact Calls.quiet_of_same (sign_any _ _ _ (by omega) (by omega) (by omega) (by omega))))
    go_wp2_with fail
    go_meet
    exact ⟨rfl, hstart _⟩
  case rest =>
    obtain ⟨rfl, g1⟩ := hcut
    clear hstart c0 c4
    go_upto_region 3 with fail
    go_cut [] (fun wx => ∃ g c, LM w hb w.heap.size m b i r t ⟨some ⟨g, 0, none⟩, b.n + 1, c, b.xs ++ [.int .u8 (sgn m b.n)]⟩ nilS nilS nilS wx)
    case first =>
      have c0 : wc.cell? ⟨hb, 0, none⟩ = some (.slice b.a b.n b.c) := cell_blk g1.old.blk rfl
      go_wp2_with (at_builtin; refine wpList_append_keep _ rfl _ _ 32 rfl 5 i0 (.int .u8 0) 1 1 Tryz.underlying32 hi hz0 hz1 hz2 rfl (by decide) b.a b.n b.c b.xs rfl (g1.old.ob.alloc _) ⟨wc.heap.size, 0, none⟩ 1 1 [.int .u8 (sgn m b.n)] rfl rfl ?c1 ?c2 (by decide) ?c3 ?c4 (wc.heap.size + 1) (by simp) ?_)
      case c1 => exact World.news_of_block (heap_alloc_new wc _)
      case c2 => intro u hu; simp at hu; subst hu; rfl
      case c3 => unfold maxLen; omega
      case c4 => omega
      intro g cp w1 o' o f hat
      have g2 := g1.stepb (by omega) (Nat.le_refl _) o' o f hat
      have gk := g1.nb g1.old.ob (by decide) f
      have d0 : w1.cell? ⟨w.heap.size, 0, none⟩ = some (.slice none 0 0) := cell_blk gk rfl
      have e0 : w1.frozen? ⟨w.heap.size, 0, none⟩ = false := frozen_blk gk
      clear o' o f hat gk
      go_wp2
      go_meet
      exact ⟨_, _, g2⟩
    case rest =>
      obtain ⟨gB, cB, g2⟩ := hcut
      clear g1 hi hz0 hz1 hz2 i0
      obtain ⟨i1, hi, hz0, hz1, hz2⟩ := info_parts info_insn
      go_upto_region 4 with fail
      go_cut [] (fun wx => ∃ g c, LM w hb w.heap.size m b i r t ⟨some ⟨gB, 0, none⟩, b.n + 1, cB, b.xs ++ [.int .u8 (sgn m b.n)]⟩ ⟨some ⟨g, 0, none⟩, i.n + 1, c, i.xs ++ mI m⟩ nilS nilS wx)
      case first =>
        have c1 : wc.cell? ⟨hb, 1, none⟩ = some (.slice i.a i.n i.c) := cell_blk g2.old.blk rfl
        have c4 : wc.cell? ⟨hb, 4, none⟩ = some (.int .i64 m) := cell_blk g2.old.blk rfl
        have hne : w.heap.size ≠ hb := by omega
        have hwm := wrapU32 m h0 h1
        go_region_held3 (fun w' => w'.cell? ⟨hb, 1, none⟩ = some (.slice i.a i.n i.c) ∧ w'.cell? ⟨hb, 4, none⟩ = some (.int .i64 m)) (go_keep)
          ((refine step_append_keep _ rfl _ _ 30 rfl 29 i1 _ 4 8 Tryz.underlying30 hi hz0 hz1 hz2 rfl (by decide) i.a i.n i.c i.xs rfl (by exact g2.old.oi.alloc _) ⟨wc.heap.size, 0, none⟩ 1 1 (mI m) rfl rfl (by exact World.news_of_block (heap_alloc_new wc _)) (one_of _ rfl) (by decide) (by unfold maxLen; omega) (by omega) (wc.heap.size + 1) (by simp) ?_; intro g cp w1 o' o f0 hat; have f := f0.undrew; have q1 : w1.cell? ⟨hb, 1, none⟩ = some (.slice i.a i.n i.c) := cell_blk (g2.hb' g2.old.oi (by decide) f) rfl; have q4 : w1.cell? ⟨hb, 4, none⟩ = some (.int .i64 m) := cell_blk (g2.hb' g2.old.oi (by decide) f) rfl; have d1 : w1.cell? ⟨w.heap.size, 1, none⟩ = some (.slice none 0 0) := cell_blk (g2.nb g2.old.oi (by decide) f) rfl; have e1 : w1.frozen? ⟨w.heap.size, 1, none⟩ = false := frozen_blk (g2.nb g2.old.oi (by decide) f); have g3 := g2.stepi (by omega) (Nat.le_refl _) o' o f hat))
        go_wp2
        go_meet
        exact ⟨_, _, g3⟩
      case rest =>
        obtain ⟨gI, cI, g3⟩ := hcut
        clear g2 hi hz0 hz1 hz2 i1
        obtain ⟨i2, hi, hz0, hz1, hz2⟩ := info_parts info_rule
        go_upto_region 5 with fail
        go_cut [] (fun wx => ∃ g c, LM w hb w.heap.size m b i r t ⟨some ⟨gB, 0, none⟩, b.n + 1, cB, b.xs ++ [.int .u8 (sgn m b.n)]⟩ ⟨some ⟨gI, 0, none⟩, i.n + 1, cI, i.xs ++ mI m⟩ ⟨some ⟨g, 0, none⟩, r.n + 1, c, r.xs ++ mR m⟩ nilS wx)
        case first =>
          have c1 : wc.cell? ⟨hb, 2, none⟩ = some (.slice r.a r.n r.c) := cell_blk g3.old.blk rfl
          have c4 : wc.cell? ⟨hb, 4, none⟩ = some (.int .i64 m) := cell_blk g3.old.blk rfl
          have hne : w.heap.size ≠ hb := by omega
          have hwm := wrapU32 m h0 h1
          go_region_held3 (fun w' => w'.cell? ⟨hb, 2, none⟩ = some (.slice r.a r.n r.c) ∧ w'.cell? ⟨hb, 4, none⟩ = some (.int .i64 m)) (go_keep)
            ((refine step_append_keep _ rfl _ _ 36 rfl 35 i2 _ 3 40 Tryz.underlying36 hi hz0 hz1 hz2 rfl (by decide) r.a r.n r.c r.xs rfl (by exact g3.old.or.alloc _) ⟨wc.heap.size, 0, none⟩ 1 1 (mR m) rfl rfl (by exact World.news_of_block (heap_alloc_new wc _)) (one_of _ rfl) (by decide) (by unfold maxLen; omega) (by omega) (wc.heap.size + 1) (by simp) ?_; intro g cp w1 o' o f0 hat; have f := f0.undrew; have q1 : w1.cell? ⟨hb, 2, none⟩ = some (.slice r.a r.n r.c) := cell_blk (g3.hb' g3.old.or (by decide) f) rfl; have q4 : w1.cell? ⟨hb, 4, none⟩ = some (.int .i64 m) := cell_blk (g3.hb' g3.old.or (by decide) f) rfl; have d1 : w1.cell? ⟨w.heap.size, 2, none⟩ = some (.slice none 0 0) := cell_blk (g3.nb g3.old.or (by decide) f) rfl; have e1 : w1.frozen? ⟨w.heap.size, 2, none⟩ = false := frozen_blk (g3.nb g3.old.or (by decide) f); have g4 := g3.stepr (by omega) (Nat.le_refl _) o' o f hat))
          go_wp2
          go_meet
          exact ⟨_, _, g4⟩
        case rest =>
          obtain ⟨gR, cR, g4⟩ := hcut
          clear g3 hi hz0 hz1 hz2 i2
          obtain ⟨i3, hi, hz0, hz1, hz2⟩ := info_parts info_test
          go_upto_region 6 with fail
          go_cut [] (fun wx => ∃ g c, LM w hb w.heap.size m b i r t ⟨some ⟨gB, 0, none⟩, b.n + 1, cB, b.xs ++ [.int .u8 (sgn m b.n)]⟩ ⟨some ⟨gI, 0, none⟩, i.n + 1, cI, i.xs ++ mI m⟩ ⟨some ⟨gR, 0, none⟩, r.n + 1, cR, r.xs ++ mR m⟩ ⟨some ⟨g, 0, none⟩, t.n + 1, c, t.xs ++ mT m⟩ wx)
          case first =>
            have c1 : wc.cell? ⟨hb, 3, none⟩ = some (.slice t.a t.n t.c) := cell_blk g4.old.blk rfl
            have c4 : wc.cell? ⟨hb, 4, none⟩ = some (.int .i64 m) := cell_blk g4.old.blk rfl
            have hne : w.heap.size ≠ hb := by omega
            have hwm := wrapI64n m h0 h1
            go_region_held3 (fun w' => w'.cell? ⟨hb, 3, none⟩ = some (.slice t.a t.n t.c) ∧ w'.cell? ⟨hb, 4, none⟩ = some (.int .i64 m)) (go_keep)
              ((refine step_append_keep _ rfl _ _ 33 rfl 95 i3 _ 4 32 Tryz.underlying33 hi hz0 hz1 hz2 rfl (by decide) t.a t.n t.c t.xs rfl (by exact g4.old.ot.alloc _) ⟨wc.heap.size, 0, none⟩ 1 1 (mT m) rfl rfl (by exact World.news_of_block (heap_alloc_new wc _)) (one_of _ rfl) (by decide) (by unfold maxLen; omega) (by omega) (wc.heap.size + 1) (by simp) ?_; intro g cp w1 o' o f0 hat; have f := f0.undrew; have q1 : w1.cell? ⟨hb, 3, none⟩ = some (.slice t.a t.n t.c) := cell_blk (g4.hb' g4.old.ot (by decide) f) rfl; have q4 : w1.cell? ⟨hb, 4, none⟩ = some (.int .i64 m) := cell_blk (g4.hb' g4.old.ot (by decide) f) rfl; have d1 : w1.cell? ⟨w.heap.size, 3, none⟩ = some (.slice none 0 0) := cell_blk (g4.nb g4.old.ot (by decide) f) rfl; have e1 : w1.frozen? ⟨w.heap.size, 3, none⟩ = false := frozen_blk (g4.nb g4.old.ot (by decide) f); have g5 := g4.stept (by omega) (Nat.le_refl _) o' o f hat))
            go_wp2
            go_meet
            exact ⟨_, _, g5⟩
          case rest =>
            obtain ⟨gT, cT, g5⟩ := hcut
            clear g4 hi hz0 hz1 hz2 i3
            go_wp2
            go_ret
            exact ⟨rfl, gB, cB, gI, cI, gR, cR, gT, cT, g5⟩
#print axioms longer_any
end Go.Proofs.YtfniofpeilgnnaaGreat
