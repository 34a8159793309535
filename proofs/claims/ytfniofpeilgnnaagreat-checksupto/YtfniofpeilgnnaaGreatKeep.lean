import Derived.Test.YtfniofpeilgnnaaGreatInv
namespace Go.Proofs.YtfniofpeilgnnaaGreat
open Go.RowKit
set_option linter.unusedVariables false

theorem info_holdp : (Tryz.prog.info? 64).map (fun i => (i.zero, i.size, i.bytes)) = some (some (.pointer none), 1, 8) := by kernel_rfl

/-- Where the holds may lie behind 'keep'. -/
def KF (F : Nat → Prop) (w : World) (hb : Nat) (b i r t : Sl) : Nat → Prop := fun x => F x ∨ x = hb ∨ sls b i r t x ∨ w.heap.size ≤ x
/-- What 'keep' may write. -/
def KS (wb : Nat) (row : Sl) (hb : Nat) (b i r t : Sl) : Nat → Prop := fun x => x = wb ∨ bk (.slice row.a row.n row.c) x ∨ x = hb ∨ sls b i r t x

/-- The loop of 'keep': n longer ones are made. -/
structure KR (w : World) (B wb : Nat) (ps : Value) (hs : List Nat) (F : Nat → Prop) (row : Sl) (hb : Nat) (b i r t : Sl) (m : Int) (n gb : Nat) (hs' : List Nat) (row' b' i' r' t' : Sl) (wr : World) : Prop where
  inv : Inv wr B wb ps hs' (KF F w hb b i r t) (preQ b' i' r' t') row'
  hold : HoldS wr gb m b' i' r' t'
  mkd : Mk m b' i' r' t'
  sm : small (100000000 + n) b' i' r' t'
  len : hs'.length = hs.length + 1 + n
  fr : Fr (KS wb row hb b i r t) w wr
  rlie : ∀ x, bk (.slice row'.a row'.n row'.c) x → bk (.slice row.a row.n row.c) x ∨ w.heap.size ≤ x
  slie : ∀ x, sls b' i' r' t' x → sls b i r t x ∨ w.heap.size ≤ x

section
variable {w : World} {B wb : Nat} {ps : Value} {hs : List Nat} {F : Nat → Prop} {row : Sl} {hb : Nat} {b i r t : Sl} {m m0 : Int}

theorem own_xs {w : World} {e : TypeId} {size : Nat} {s : Sl} (h : Own w e size s.a s.n s.c s.xs) : PreS size s s := PreS.refl size s h.1

/-- Behind the mark and 'marks'. -/
theorem keep_marked {w2 : World} (hI : Inv w B wb ps hs F anyQ row) (hh : HoldS w hb m0 b i r t) (ha : ¬ F hb) (hb' : ∀ x, sls b i r t x → ¬ F x) (h0 : 0 ≤ m) (h1 : m ≤ 1000000000) (hsm : small 100000000 b i r t)
    (h2 : HoldS w2 hb m ⟨b.a, b.n, b.c, mB m b.n⟩ ⟨i.a, i.n, i.c, rep (mI m) i.n⟩ ⟨r.a, r.n, r.c, rep (mR m) r.n⟩ ⟨t.a, t.n, t.c, rep (mT m) t.n⟩) (f : Fr (sls b i r t) (w.setCell ⟨hb, 4, none⟩ (.int .i64 m)) w2) :
    Inv w2 B wb ps hs (KF F w hb b i r t) (preQ ⟨b.a, b.n, b.c, mB m b.n⟩ ⟨i.a, i.n, i.c, rep (mI m) i.n⟩ ⟨r.a, r.n, r.c, rep (mR m) r.n⟩ ⟨t.a, t.n, t.c, rep (mT m) t.n⟩) row ∧
    Marked (KF F w hb b i r t) (preQ ⟨b.a, b.n, b.c, mB m b.n⟩ ⟨i.a, i.n, i.c, rep (mI m) i.n⟩ ⟨r.a, r.n, r.c, rep (mR m) r.n⟩ ⟨t.a, t.n, t.c, rep (mT m) t.n⟩) w2 hb ∧
    Fr (KS wb row hb b i r t) w w2 := by
  have F1 : Fr (fun x => x = hb ∨ sls b i r t x) w w2 := ((fr_set w hb 4 (.int .i64 m)).mono (fun x _ hx => .inl hx)).step f (fun x _ hx => .inr hx)
  have hI2 : Inv w2 B wb ps hs F anyQ row := hI.fr F1
    (fun h => by
      rcases h with h | h
      · have := hI.blk; rw [h, hh.blk] at this; simp at this
      · exact sls_ty hh hI.blk (by decide) (by decide) (by decide) (by decide) h)
    (fun x hx h => by
      obtain ⟨c, g, hy⟩ := hI.row_ty hx
      rcases h with h | h
      · rw [h, hh.blk] at hy; simp at hy
      · exact sls_ty hh hy (by decide) (by decide) (by decide) (by decide) h)
    (fun x hx h => by
      rcases h with h | h
      · exact ha (h ▸ hx)
      · exact hb' x h hx)
  refine ⟨hI2.mono (fun x _ hx => .inl hx) ?_, ?_, F1.mono (fun x _ hx => .inr (.inr hx))⟩
  · intro b2 i2 r2 t2 hF _
    refine ⟨PreS.apart (fun x h1 h2 => hb' x (.inl h2) (hF x (.inl h1))), PreS.apart (fun x h1 h2 => hb' x (.inr (.inl h2)) (hF x (.inr (.inl h1)))),
      PreS.apart (fun x h1 h2 => hb' x (.inr (.inr (.inl h2))) (hF x (.inr (.inr (.inl h1))))), PreS.apart (fun x h1 h2 => hb' x (.inr (.inr (.inr h2))) (hF x (.inr (.inr (.inr h1)))))⟩
  · obtain ⟨s1, s2, s3, s4⟩ := hsm
    exact ⟨m, _, _, _, _, h2, ⟨rfl, rfl, rfl, rfl⟩, h0, h1, ⟨by show b.n ≤ _; omega, by show i.n ≤ _; omega, by show r.n ≤ _; omega, by show t.n ≤ _; omega⟩, .inr (.inl rfl), fun x hx => .inr (.inr (.inl hx)), own_xs h2.ob, own_xs h2.oi, own_xs h2.or, own_xs h2.ot⟩

theorem push_fr {Q : Q4} {w3 : World} {el : Obj} {g c' : Nat} (h : Inv w B wb ps hs F Q row) (f : Fr (bk (.slice row.a row.n row.c)) (w.alloc el) w3) :
    Fr (fun x => bk (.slice row.a row.n row.c) x ∨ x = wb) w (w3.setCell ⟨wb, 1, none⟩ (.slice (some ⟨g, 0, none⟩) (row.n + 1) c')) :=
  (((Fr.refl _ w).alloc el).step f (fun k _ hk => .inl hk)).step (fr_set _ _ _ _) (fun k _ hk => .inr hk)
theorem Inv.wk {Q : Q4} {w3 : World} {el : Obj} (h : Inv w B wb ps hs F Q row) (f : Fr (bk (.slice row.a row.n row.c)) (w.alloc el) w3) : w3.heap[wb]? = some (.cells #[ps, .slice row.a row.n row.c] 46 (0, 0)) :=
  f.heap (blk_alloc h.blk) (own_ne (h.own.alloc el) (blk_alloc h.blk) (by decide))
theorem hold_push {Q : Q4} {w3 : World} {el : Obj} {g c' gb : Nat} {b' i' r' t' : Sl} (h : Inv w B wb ps hs F Q row) (f : Fr (bk (.slice row.a row.n row.c)) (w.alloc el) w3) (hh : HoldS w gb m b' i' r' t') :
    HoldS (w3.setCell ⟨wb, 1, none⟩ (.slice (some ⟨g, 0, none⟩) (row.n + 1) c')) gb m b' i' r' t' := by
  refine hh.fr (push_fr h f) ?_ ?_
  · intro hx
    rcases hx with hx | hx
    · obtain ⟨c, f, hy⟩ := h.row_ty hx
      rw [hh.blk] at hy; simp at hy
    · have := h.blk; rw [← hx, hh.blk] at this; simp at this
  · intro x hx hx'
    rcases hx' with hx' | hx'
    · obtain ⟨c, f, hy⟩ := h.row_ty hx'
      exact sls_ty hh hy (by decide) (by decide) (by decide) (by decide) hx
    · exact sls_ty hh (by rw [hx']; exact h.blk) (by decide) (by decide) (by decide) (by decide) hx

theorem KR.start {w2 w3 : World} {el : Obj} {g c' : Nat} (hI : Inv w B wb ps hs F anyQ row) (hh : HoldS w hb m0 b i r t) (ha : ¬ F hb) (hb' : ∀ x, sls b i r t x → ¬ F x) (hB : B ≤ w.heap.size) (h0 : 0 ≤ m) (h1 : m ≤ 1000000000) (hsm : small 100000000 b i r t)
    (h2 : HoldS w2 hb m ⟨b.a, b.n, b.c, mB m b.n⟩ ⟨i.a, i.n, i.c, rep (mI m) i.n⟩ ⟨r.a, r.n, r.c, rep (mR m) r.n⟩ ⟨t.a, t.n, t.c, rep (mT m) t.n⟩) (f : Fr (sls b i r t) (w.setCell ⟨hb, 4, none⟩ (.int .i64 m)) w2)
    (o' : Own w3 64 1 (some ⟨g, 0, none⟩) (row.n + 1) c' (row.xs ++ [.pointer (some ⟨hb, 0, none⟩)])) (f3 : Fr (bk (.slice row.a row.n row.c)) (w2.alloc el) w3) (hat : bk (.slice row.a row.n row.c) g ∨ g = w2.heap.size + 1) :
    KR w B wb ps hs F row hb b i r t m 0 hb (hs ++ [hb]) ⟨some ⟨g, 0, none⟩, row.n + 1, c', row.xs ++ [.pointer (some ⟨hb, 0, none⟩)]⟩ ⟨b.a, b.n, b.c, mB m b.n⟩ ⟨i.a, i.n, i.c, rep (mI m) i.n⟩ ⟨r.a, r.n, r.c, rep (mR m) r.n⟩ ⟨t.a, t.n, t.c, rep (mT m) t.n⟩
      (w3.setCell ⟨wb, 1, none⟩ (.slice (some ⟨g, 0, none⟩) (row.n + 1) c')) := by
  obtain ⟨k1, k2, k3⟩ := keep_marked hI hh ha hb' h0 h1 hsm h2 f
  have hsz := k3.size
  refine ⟨k1.push k2 o' f3 hat (by omega), hold_push k1 f3 h2, ⟨rfl, rfl, rfl, rfl⟩, ⟨by have := hsm.1; show b.n ≤ _; omega, by have := hsm.2.1; show i.n ≤ _; omega, by have := hsm.2.2.1; show r.n ≤ _; omega, by have := hsm.2.2.2; show t.n ≤ _; omega⟩, by simp, ?_, ?_, fun x hx => .inl hx⟩
  · exact k3.step (push_fr k1 f3) (fun x _ hx => by
      rcases hx with hx | hx
      · exact .inr (.inl hx)
      · exact .inl hx)
  · intro x hx
    simp only [bk, Value.ownBlock, Option.some.injEq] at hx
    subst hx
    rcases hat with hat | hat
    · exact .inl hat
    · exact .inr (by omega)

theorem KR.next {wr w1 w3 : World} {el : Obj} {g c' n gb : Nat} {hs' : List Nat} {row' b' i' r' t' b2 i2 r2 t2 : Sl} (k : KR w B wb ps hs F row hb b i r t m n gb hs' row' b' i' r' t' wr) (hB : B ≤ w.heap.size) (hn : n < 3) (h0 : 0 ≤ m) (h1 : m ≤ 1000000000)
    (L : LM wr gb wr.heap.size m b' i' r' t' b2 i2 r2 t2 w1) (nb : b2.n = b'.n + 1) (ni : i2.n = i'.n + 1) (nr : r2.n = r'.n + 1) (nt : t2.n = t'.n + 1) (eb : b2.xs = b'.xs ++ [.int .u8 (sgn m b'.n)]) (ei : i2.xs = i'.xs ++ mI m) (er : r2.xs = r'.xs ++ mR m) (et : t2.xs = t'.xs ++ mT m)
    (o' : Own w3 64 1 (some ⟨g, 0, none⟩) (row'.n + 1) c' (row'.xs ++ [.pointer (some ⟨wr.heap.size, 0, none⟩)])) (f3 : Fr (bk (.slice row'.a row'.n row'.c)) (w1.alloc el) w3) (hat : bk (.slice row'.a row'.n row'.c) g ∨ g = w1.heap.size + 1) :
    KR w B wb ps hs F row hb b i r t m (n + 1) wr.heap.size (hs' ++ [wr.heap.size]) ⟨some ⟨g, 0, none⟩, row'.n + 1, c', row'.xs ++ [.pointer (some ⟨wr.heap.size, 0, none⟩)]⟩ b2 i2 r2 t2
      (w3.setCell ⟨wb, 1, none⟩ (.slice (some ⟨g, 0, none⟩) (row'.n + 1) c')) := by
  have hsz := k.fr.size
  have hsz1 := L.fr.size
  have J := k.inv.longer k.hold L nb ni nr nt eb ei er et
  have mk2 : Mk m b2 i2 r2 t2 := ⟨by rw [eb, nb, mB_succ, k.mkd.b], by rw [ei, ni, k.mkd.i]; rfl, by rw [er, nr, k.mkd.r]; rfl, by rw [et, nt, k.mkd.t]; rfl⟩
  obtain ⟨s1, s2, s3, s4⟩ := k.sm
  have sl2 : ∀ x, sls b2 i2 r2 t2 x → sls b i r t x ∨ w.heap.size ≤ x := by
    intro x hx
    have : sls b' i' r' t' x ∨ wr.heap.size ≤ x := by
      rcases hx with hx | hx | hx | hx
      · exact (L.lie.1 x hx).elim (fun h => .inl (.inl h)) .inr
      · exact (L.lie.2.1 x hx).elim (fun h => .inl (.inr (.inl h))) .inr
      · exact (L.lie.2.2.1 x hx).elim (fun h => .inl (.inr (.inr (.inl h)))) .inr
      · exact (L.lie.2.2.2 x hx).elim (fun h => .inl (.inr (.inr (.inr h)))) .inr
    rcases this with h | h
    · exact k.slie x h
    · exact .inr (by omega)
  have M : Marked (KF F w hb b i r t) (preQ b2 i2 r2 t2) w1 wr.heap.size :=
    ⟨m, b2, i2, r2, t2, L.new, mk2, h0, h1, ⟨by omega, by omega, by omega, by omega⟩, .inr (.inr (.inr hsz)), fun x hx => (sl2 x hx).elim (fun h => .inr (.inr (.inl h))) (fun h => .inr (.inr (.inr h))), own_xs L.new.ob, own_xs L.new.oi, own_xs L.new.or, own_xs L.new.ot⟩
  refine ⟨J.push M o' f3 hat (by omega), hold_push J f3 L.new, mk2, ⟨by omega, by omega, by omega, by omega⟩, by simp [k.len]; omega, ?_, ?_, sl2⟩
  · refine (k.fr.step L.fr (fun x hx h => ?_)).step (push_fr J f3) (fun x hx h => ?_)
    · rcases k.slie x h with h | h
      · exact .inr (.inr (.inr h))
      · omega
    · rcases h with h | h
      · rcases k.rlie x h with h | h
        · exact .inr (.inl h)
        · omega
      · exact .inl h
  · intro x hx
    simp only [bk, Value.ownBlock, Option.some.injEq] at hx
    subst hx
    rcases hat with hat | hat
    · exact k.rlie _ hat
    · exact .inr (by omega)
end

set_option maxRecDepth 100000 in
set_option maxHeartbeats 2000000 in
theorem keep_any (w : World) (B wb : Nat) (ps : Value) (hs : List Nat) (F : Nat → Prop) (row : Sl) (hb : Nat) (m0 : Int) (b i r t : Sl) (hI : Inv w B wb ps hs F anyQ row) (hh : HoldS w hb m0 b i r t)
    (ha : ¬ F hb) (hb' : ∀ x, sls b i r t x → ¬ F x) (hB : B ≤ w.heap.size) (hlen : hs.length ≤ 100000000) (hsm : small 100000000 b i r t) :
    Calls Tryz.prog 26 #[.pointer (some ⟨wb, 0, none⟩), .pointer (some ⟨hb, 0, none⟩)] w fun e w' => e = .returned (.tuple #[]) ∧
      ∃ hs' row', Inv w' B wb ps hs' (KF F w hb b i r t) anyQ row' ∧ hs'.length = hs.length + 4 ∧ Fr (KS wb row hb b i r t) w w' := by
  have hrn : row.n ≤ 100000000 := by rw [hI.n]; exact hlen
  have c1 : w.cell? ⟨wb, 1, none⟩ = some (.slice row.a row.n row.c) := cell_blk hI.blk rfl
  have d4 : w.cell? ⟨hb, 4, none⟩ = some (.int .i64 m0) := cell_blk hh.blk rfl
  have e4 : w.frozen? ⟨hb, 4, none⟩ = false := frozen_blk hh.blk
  obtain ⟨m, hm⟩ : ∃ m : Int, m = (row.n : Int) + 1 := ⟨_, rfl⟩
  have hne : wb ≠ hb := fun e => by have := hI.blk; rw [e, hh.blk] at this; simp at this
  have h1 : HoldS (w.setCell ⟨hb, 4, none⟩ (.int .i64 m)) hb m b i r t := ⟨heap_set hh.blk, own_put hh.ob hh.blk (by decide), own_put hh.oi hh.blk (by decide), own_put hh.or hh.blk (by decide), own_put hh.ot hh.blk (by decide)⟩
  have hsm' : small 1000000000 b i r t := ⟨by have := hsm.1; omega, by have := hsm.2.1; omega, by have := hsm.2.2.1; omega, by have := hsm.2.2.2; omega⟩
  obtain ⟨i0, hi, hz0, hz1, hz2⟩ := info_parts info_holdp
  subst hm
  go_enter Tryz.func26, Tryz.ntmps26
  go_wp2_with fail
  go_outline
  refine (marks_hold _ hb _ b i r t h1 (by omega) (by omega) hsm').mono ?_
  rintro e w2 ⟨rfl, h2, f2⟩
  obtain ⟨k1, k2, k3⟩ := keep_marked hI hh ha hb' (by omega) (by omega) hsm h2 f2
  have c1' : w2.cell? ⟨wb, 1, none⟩ = some (.slice row.a row.n row.c) := cell_blk k1.blk rfl
  clear c1 d4 e4 h1
  go_wp2_with (at_builtin; refine wpList_append_keep _ rfl _ _ 44 rfl 64 i0 (.pointer none) 1 8 Tryz.underlying44 hi hz0 hz1 hz2 rfl (by decide) row.a row.n row.c row.xs rfl (k1.own.alloc _) ⟨w2.heap.size, 0, none⟩ 1 1 [.pointer (some ⟨hb, 0, none⟩)] rfl rfl ?c1 ?c2 (by decide) ?c3 ?c4 (w2.heap.size + 1) (by simp) ?_)
  case c1 => exact World.news_of_block (heap_alloc_new w2 _)
  case c2 => intro u hu; simp at hu; subst hu; rfl
  case c3 => unfold maxLen; omega
  case c4 => omega
  intro g cp w3 o' o f3 hat
  have K0 := KR.start hI hh ha hb' hB (by omega) (by omega) hsm h2 f2 o' f3 hat
  have wk := k1.wk f3
  have d1 : w3.cell? ⟨wb, 1, none⟩ = some (.slice row.a row.n row.c) := cell_blk wk rfl
  have e1 : w3.frozen? ⟨wb, 1, none⟩ = false := frozen_blk wk
  clear o' o f3 hat wk k1 k2 k3 c1' h2 f2
  go_wp2_with fail
  go_loopw [4, 5] (fun x y wr => ∃ n gb hs' row' b' i' r' t', n ≤ 3 ∧ x = .pointer (some ⟨gb, 0, none⟩) ∧ y = .int .i64 (n : Nat) ∧ KR w B wb ps hs F row hb b i r t ((row.n : Int) + 1) n gb hs' row' b' i' r' t' wr) (fun _ y _ => 3 - (intOf y).toNat)
  case atStart => exact ⟨0, _, _, _, _, _, _, _, by decide, rfl, rfl, K0⟩
  case round =>
    clear K0 d1 e1
    obtain ⟨n, gb, hs', row', b', i', r', t', hn, rfl, rfl, K⟩ := hrel
    have hln : row'.n ≤ 100000004 := by rw [K.inv.n, K.len]; omega
    by_cases hlt : n < 3
    · have hsK := K.sm
      go_wp2_with fail
      refine (longer_any _ gb _ b' i' r' t' K.hold (by omega) (by omega) ⟨by have := hsK.1; omega, by have := hsK.2.1; omega, by have := hsK.2.2.1; omega, by have := hsK.2.2.2; omega⟩).mono ?_
      rintro e w1 ⟨rfl, gB, cB, gI, cI, gR, cR, gT, cT, L⟩
      have J := K.inv.longer K.hold L rfl rfl rfl rfl rfl rfl rfl rfl
      have q1 : w1.cell? ⟨wb, 1, none⟩ = some (.slice row'.a row'.n row'.c) := cell_blk J.blk rfl
      clear hsK
      go_wp2_with (at_builtin; refine wpList_append_keep _ rfl _ _ 44 rfl 64 i0 (.pointer none) 1 8 Tryz.underlying44 hi hz0 hz1 hz2 rfl (by decide) row'.a row'.n row'.c row'.xs rfl (J.own.alloc _) ⟨w1.heap.size, 0, none⟩ 1 1 [.pointer (some ⟨wr.heap.size, 0, none⟩)] rfl rfl ?k1 ?k2 (by decide) ?k3 ?k4 (w1.heap.size + 1) (by simp) ?_)
      case k1 => exact World.news_of_block (heap_alloc_new w1 _)
      case k2 => intro u hu; simp at hu; subst hu; rfl
      case k3 => unfold maxLen; omega
      case k4 => omega
      intro g2 cp2 w5 o' o f3 hat
      have K2 := K.next hB hlt (by omega) (by omega) L rfl rfl rfl rfl rfl rfl rfl rfl o' f3 hat
      have wk := J.wk f3
      have d1 : w5.cell? ⟨wb, 1, none⟩ = some (.slice row'.a row'.n row'.c) := cell_blk wk rfl
      have e1 : w5.frozen? ⟨wb, 1, none⟩ = false := frozen_blk wk
      clear o' o f3 hat wk J L K q1
      go_wp2
      go_roundw
      case rel => exact ⟨n + 1, _, _, _, _, _, _, _, by omega, rfl, by go_num, K2⟩
      case measure => simp [intOf]; omega
    · have hn3 : n = 3 := by omega
      subst hn3
      go_wp2
      go_end0
      exact ⟨rfl, hs', row', K.inv.mono (fun _ _ h => h) (fun _ _ _ _ _ _ => trivial), by rw [K.len], K.fr⟩
#print axioms keep_any
end Go.Proofs.YtfniofpeilgnnaaGreat
