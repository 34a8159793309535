import Derived.Test.YtfniofpeilgnnaaGreatLonger
namespace Go.Proofs.YtfniofpeilgnnaaGreat
open Go.RowKit
set_option linter.unusedVariables false

/-- Where two slices share a block, the first is the head of the second. -/
def PreS (size : Nat) (s s' : Sl) : Prop := ∀ x, bk (.slice s.a s.n s.c) x → bk (.slice s'.a s'.n s'.c) x → s.n ≤ s'.n ∧ s.c = s'.c ∧ s.xs = s'.xs.take (s.n * size)
theorem PreS.refl (size : Nat) (s : Sl) (h : s.xs.length = s.n * size) : PreS size s s := fun _ _ _ => ⟨Nat.le_refl _, rfl, by rw [List.take_of_length_le (by omega)]⟩
theorem PreS.apart {size : Nat} {s s' : Sl} (h : ∀ x, bk (.slice s.a s.n s.c) x → ¬ bk (.slice s'.a s'.n s'.c) x) : PreS size s s' := fun x h1 h2 => absurd h2 (h x h1)

theorem own_pre {S : Nat → Prop} {w w' : World} {e : TypeId} {size : Nat} {s s' : Sl} (h : Own w e size s.a s.n s.c s.xs) (h' : Own w' e size s'.a s'.n s'.c s'.xs) (f : Fr S w w')
    (hS : ∀ x, bk (.slice s.a s.n s.c) x → S x → bk (.slice s'.a s'.n s'.c) x) (p : PreS size s s') : Own w' e size s.a s.n s.c s.xs := by
  refine ⟨h.1, ?_⟩
  rcases h.2 with hn | ⟨g, cap, cur, hv, hb, hg, hnc, hcm, hcs, htake⟩
  · exact .inl hn
  · have hbk : bk (.slice s.a s.n s.c) g := by rw [hv]; simp [bk, Value.ownBlock]
    have hc : s.c = cap := by simp only [Value.slice.injEq] at hv; exact hv.2.2
    by_cases hg' : S g
    · have hb' := hS g hbk hg'
      obtain ⟨p1, p2, p3⟩ := p g hbk hb'
      rcases h'.2 with ⟨hn', _⟩ | ⟨g', cap', cur', hv', _, hg2, hnc', hcm', hcs', htake'⟩
      · rw [hn'] at hb'; simp [bk, Value.ownBlock] at hb'
      · have hc' : s'.c = cap' := by simp only [Value.slice.injEq] at hv'; exact hv'.2.2
        rw [hv'] at hb'
        simp only [bk, Value.ownBlock, Option.some.injEq] at hb'
        subst hb'
        refine .inr ⟨g', cap, cur', hv, hb, hg2, hnc, hcm, by rw [hcs', ← hc', ← p2, hc], ?_⟩
        rw [p3, ← htake', List.take_take, Nat.min_eq_left (Nat.mul_le_mul_right _ p1)]
    · exact .inr ⟨g, cap, cur, hv, hb, f.heap hg hg', hnc, hcm, hcs, htake⟩

theorem own_cap {w : World} {e : TypeId} {size : Nat} {s s' : Sl} (hsz : 0 < size) (h : Own w e size s.a s.n s.c s.xs) (h' : Own w e size s'.a s'.n s'.c s'.xs) {x : Nat} (hx : bk (.slice s.a s.n s.c) x) (hx' : bk (.slice s'.a s'.n s'.c) x) : s.c = s'.c := by
  rcases h.2 with ⟨hn, _⟩ | ⟨g, cap, cur, hv, _, hg, _, _, hcs, _⟩
  · rw [hn] at hx; simp [bk, Value.ownBlock] at hx
  rcases h'.2 with ⟨hn, _⟩ | ⟨g', cap', cur', hv', _, hg', _, _, hcs', _⟩
  · rw [hn] at hx'; simp [bk, Value.ownBlock] at hx'
  rw [hv] at hx; rw [hv'] at hx'
  simp only [bk, Value.ownBlock, Option.some.injEq] at hx hx'
  subst hx; subst hx'
  rw [hg] at hg'
  simp only [Option.some.injEq, Obj.cells.injEq] at hg'
  obtain ⟨rfl, _⟩ := hg'
  simp only [Value.slice.injEq] at hv hv'
  rw [hv.2.2, hv'.2.2]
  exact Nat.eq_of_mul_eq_mul_right hsz (hcs.symm.trans hcs')

theorem pre_ext {w w' : World} {e : TypeId} {size : Nat} {s p q : Sl} {y : List Value} (hsz : 0 < size) (h : PreS size s p) (hl : Lie w p q) (os : Own w e size s.a s.n s.c s.xs) (op : Own w' e size p.a p.n p.c p.xs) (oq : Own w' e size q.a q.n q.c q.xs)
    (hn : q.n = p.n + 1) (hx : q.xs = p.xs ++ y) : PreS size s q := fun x h1 h2 => by
  have hlt := own_lt os h1
  rcases hl x h2 with h3 | h3
  · obtain ⟨p1, p2, p3⟩ := h x h1 h3
    have hlen : s.n * size ≤ p.xs.length := by rw [op.1]; exact Nat.mul_le_mul_right _ p1
    refine ⟨by omega, p2.trans (own_cap hsz op oq h3 h2), ?_⟩
    rw [hx, List.take_append_of_le_length hlen]; exact p3
  · omega

/-- All its places are marked. -/
structure Mk (m : Int) (b i r t : Sl) : Prop where
  b : b.xs = mB m b.n
  i : i.xs = rep (mI m) i.n
  r : r.xs = rep (mR m) r.n
  t : t.xs = rep (mT m) t.n
abbrev Q4 := Sl → Sl → Sl → Sl → Prop
def anyQ : Q4 := fun _ _ _ _ => True
/-- Each of its slices is the head of the one that is named, where they share a block. -/
def preQ (b' i' r' t' : Sl) : Q4 := fun b i r t => PreS 1 b b' ∧ PreS 4 i i' ∧ PreS 3 r r' ∧ PreS 4 t t'
/-- A hold that reads as its owner wrote it; F: blocks that it may lie in. -/
def Marked (F : Nat → Prop) (Q : Q4) (w : World) (k : Nat) : Prop := ∃ m b i r t, HoldS w k m b i r t ∧ Mk m b i r t ∧ 0 ≤ m ∧ m ≤ 1000000000 ∧ small 1000000000 b i r t ∧ F k ∧ (∀ x, sls b i r t x → F x) ∧ Q b i r t
/-- The world of the script. -/
structure Inv (w : World) (B wb : Nat) (ps : Value) (hs : List Nat) (F : Nat → Prop) (Q : Q4) (row : Sl) : Prop where
  blk : w.heap[wb]? = some (.cells #[ps, .slice row.a row.n row.c] 46 (0, 0))
  own : Own w 64 1 row.a row.n row.c row.xs
  xs : row.xs = hs.map fun k => Value.pointer (some ⟨k, 0, none⟩)
  n : row.n = hs.length
  all : ∀ k ∈ hs, Marked F Q w k
  lob : B ≤ wb
  lor : ∀ x, bk (.slice row.a row.n row.c) x → B ≤ x

theorem Marked.mono {F G : Nat → Prop} {Q R : Q4} {w : World} {k : Nat} (h : Marked F Q w k) (hfg : ∀ x, x < w.heap.size → F x → G x) (hq : ∀ b i r t, (∀ x, sls b i r t x → F x) → Q b i r t → R b i r t) : Marked G R w k := by
  obtain ⟨m, b, i, r, t, h1, h2, h3, h4, h5, h6, h7, h8⟩ := h
  exact ⟨m, b, i, r, t, h1, h2, h3, h4, h5, hfg _ h1.lt h6, fun x hx => hfg _ (h1.sls_lt hx) (h7 x hx), hq _ _ _ _ h7 h8⟩
theorem Marked.fr {F S : Nat → Prop} {Q : Q4} {w w' : World} {k : Nat} (h : Marked F Q w k) (f : Fr S w w') (hS : ∀ x, F x → ¬ S x) : Marked F Q w' k := by
  obtain ⟨m, b, i, r, t, h1, h2, h3, h4, h5, h6, h7, h8⟩ := h
  exact ⟨m, b, i, r, t, h1.fr f (hS _ h6) (fun x hx => hS x (h7 x hx)), h2, h3, h4, h5, h6, h7, h8⟩
theorem sls_ty {w : World} {k x : Nat} {m : Int} {b i r t : Sl} {c : Array Value} {e : TypeId} {f : Nat × Nat} (h1 : HoldS w k m b i r t) (hy : w.heap[x]? = some (.cells c e f)) (n1 : 5 ≠ e) (n2 : 29 ≠ e) (n3 : 35 ≠ e) (n4 : 95 ≠ e) : ¬ sls b i r t x := by
  intro hx
  rcases hx with hx | hx | hx | hx
  · exact own_ne h1.ob hy n1 hx
  · exact own_ne h1.oi hy n2 hx
  · exact own_ne h1.or hy n3 hx
  · exact own_ne h1.ot hy n4 hx
/-- Blocks of other types than a hold's are not a hold's. -/
theorem Marked.frT {F S : Nat → Prop} {Q : Q4} {w w' : World} {k : Nat} (h : Marked F Q w k) (f : Fr S w w') (hS : ∀ x, S x → (∃ c f, w.heap[x]? = some (.cells c 46 f)) ∨ (∃ c f, w.heap[x]? = some (.cells c 64 f)) ∨ w.heap.size ≤ x) : Marked F Q w' k := by
  obtain ⟨m, b, i, r, t, h1, h2, h3, h4, h5, h6, h7, h8⟩ := h
  refine ⟨m, b, i, r, t, h1.fr f ?_ ?_, h2, h3, h4, h5, h6, h7, h8⟩
  · intro hs
    have hb := h1.blk
    rcases hS _ hs with ⟨c, g, hx⟩ | ⟨c, g, hx⟩ | hx
    · rw [hb] at hx; simp at hx
    · rw [hb] at hx; simp at hx
    · have := h1.lt; omega
  · intro x hx hs
    have hlt := h1.sls_lt hx
    rcases hS _ hs with ⟨c, g, hy⟩ | ⟨c, g, hy⟩ | hy
    · exact sls_ty h1 hy (by decide) (by decide) (by decide) (by decide) hx
    · exact sls_ty h1 hy (by decide) (by decide) (by decide) (by decide) hx
    · omega

section
variable {w : World} {B wb : Nat} {ps : Value} {hs : List Nat} {F : Nat → Prop} {Q : Q4} {row : Sl}
theorem Inv.row_ty (h : Inv w B wb ps hs F Q row) {x : Nat} (hx : bk (.slice row.a row.n row.c) x) : ∃ c f, w.heap[x]? = some (.cells c 64 f) := by
  rcases h.own.2 with ⟨hn, _⟩ | ⟨g, cap, cur, hv, _, hg, _⟩
  · rw [hn] at hx; simp [bk, Value.ownBlock] at hx
  · rw [hv] at hx; simp only [bk, Value.ownBlock, Option.some.injEq] at hx; subst hx; exact ⟨_, _, hg⟩
theorem Inv.mono {G : Nat → Prop} {R : Q4} (h : Inv w B wb ps hs F Q row) (hfg : ∀ x, x < w.heap.size → F x → G x) (hq : ∀ b i r t, (∀ x, sls b i r t x → F x) → Q b i r t → R b i r t) : Inv w B wb ps hs G R row :=
  ⟨h.blk, h.own, h.xs, h.n, fun k hk => (h.all k hk).mono hfg hq, h.lob, h.lor⟩
theorem Inv.fr {S : Nat → Prop} {w' : World} (h : Inv w B wb ps hs F Q row) (f : Fr S w w') (h1 : ¬ S wb) (h2 : ∀ x, bk (.slice row.a row.n row.c) x → ¬ S x) (h3 : ∀ x, F x → ¬ S x) : Inv w' B wb ps hs F Q row :=
  ⟨f.heap h.blk h1, own_fr h.own f h2, h.xs, h.n, fun k hk => (h.all k hk).fr f h3, h.lob, h.lor⟩
theorem Inv.drew (h : Inv w B wb ps hs F Q row) : Inv w.drew B wb ps hs F Q row := h.fr ((Fr.refl nob w).drew) (fun h => h) (fun _ _ h => h) (fun _ _ h => h)
/-- One hold more in the row. -/
theorem Inv.push {w3 : World} {el : Obj} {hb g c' : Nat} (h : Inv w B wb ps hs F Q row) (mk : Marked F Q w hb) (o' : Own w3 64 1 (some ⟨g, 0, none⟩) (row.n + 1) c' (row.xs ++ [.pointer (some ⟨hb, 0, none⟩)]))
    (f : Fr (bk (.slice row.a row.n row.c)) (w.alloc el) w3) (hat : bk (.slice row.a row.n row.c) g ∨ g = w.heap.size + 1) (hB : B ≤ w.heap.size) :
    Inv (w3.setCell ⟨wb, 1, none⟩ (.slice (some ⟨g, 0, none⟩) (row.n + 1) c')) B wb ps (hs ++ [hb]) F Q ⟨some ⟨g, 0, none⟩, row.n + 1, c', row.xs ++ [.pointer (some ⟨hb, 0, none⟩)]⟩ := by
  have wk := f.heap (blk_alloc h.blk) (own_ne (h.own.alloc el) (blk_alloc h.blk) (by decide))
  have F2 : Fr (fun x => bk (.slice row.a row.n row.c) x ∨ x = wb) w (w3.setCell ⟨wb, 1, none⟩ (.slice (some ⟨g, 0, none⟩) (row.n + 1) c')) :=
    (((Fr.refl _ w).alloc el).step f (fun k _ hk => .inl hk)).step (fr_set _ _ _ _) (fun k _ hk => .inr hk)
  have hty : ∀ x, (bk (.slice row.a row.n row.c) x ∨ x = wb) → (∃ c f, w.heap[x]? = some (.cells c 46 f)) ∨ (∃ c f, w.heap[x]? = some (.cells c 64 f)) ∨ w.heap.size ≤ x := fun x hx => by
    rcases hx with hx | hx
    · exact .inr (.inl (h.row_ty hx))
    · subst hx; exact .inl ⟨_, _, h.blk⟩
  refine ⟨heap_set wk, own_put o' wk (by decide), by rw [h.xs]; simp, by simp [h.n], ?_, h.lob, ?_⟩
  · intro k hk
    rcases List.mem_append.1 hk with hk | hk
    · exact (h.all k hk).frT F2 hty
    · simp at hk; subst hk; exact mk.frT F2 hty
  · intro x hx
    simp only [bk, Value.ownBlock, Option.some.injEq] at hx
    subst hx
    rcases hat with hat | hat
    · exact h.lor _ hat
    · omega
end

section
variable {w w1 : World} {B wb gb gb2 : Nat} {m : Int} {ps : Value} {hs : List Nat} {F : Nat → Prop} {row : Sl} {b i r t b' i' r' t' : Sl} {yb yi yr yt : List Value}
theorem Inv.longer (h : Inv w B wb ps hs F (preQ b i r t) row) (g : HoldS w gb m b i r t) (L : LM w gb gb2 m b i r t b' i' r' t' w1)
    (nb : b'.n = b.n + 1) (ni : i'.n = i.n + 1) (nr : r'.n = r.n + 1) (nt : t'.n = t.n + 1) (eb : b'.xs = b.xs ++ yb) (ei : i'.xs = i.xs ++ yi) (er : r'.xs = r.xs ++ yr) (et : t'.xs = t.xs ++ yt) :
    Inv w1 B wb ps hs F (preQ b' i' r' t') row := by
  refine ⟨L.fr.heap h.blk (sls_ty g h.blk (by decide) (by decide) (by decide) (by decide)), own_fr h.own L.fr (fun x hx => ?_), h.xs, h.n, fun k hk => ?_, h.lob, h.lor⟩
  · obtain ⟨c, f, hy⟩ := h.row_ty hx
    exact sls_ty g hy (by decide) (by decide) (by decide) (by decide)
  · obtain ⟨m2, b2, i2, r2, t2, h1, h2, h3, h4, h5, h6, h7, pb, pi, pr, pt⟩ := h.all k hk
    have hob := own_pre h1.ob L.old.ob L.fr (fun x hx hs => by
      rcases hs with hs | hs | hs | hs
      · exact hs
      · exact absurd hs (own_apart h1.ob g.oi (by decide) x hx)
      · exact absurd hs (own_apart h1.ob g.or (by decide) x hx)
      · exact absurd hs (own_apart h1.ob g.ot (by decide) x hx)) pb
    have hoi := own_pre h1.oi L.old.oi L.fr (fun x hx hs => by
      rcases hs with hs | hs | hs | hs
      · exact absurd hs (own_apart h1.oi g.ob (by decide) x hx)
      · exact hs
      · exact absurd hs (own_apart h1.oi g.or (by decide) x hx)
      · exact absurd hs (own_apart h1.oi g.ot (by decide) x hx)) pi
    have hor := own_pre h1.or L.old.or L.fr (fun x hx hs => by
      rcases hs with hs | hs | hs | hs
      · exact absurd hs (own_apart h1.or g.ob (by decide) x hx)
      · exact absurd hs (own_apart h1.or g.oi (by decide) x hx)
      · exact hs
      · exact absurd hs (own_apart h1.or g.ot (by decide) x hx)) pr
    have hot := own_pre h1.ot L.old.ot L.fr (fun x hx hs => by
      rcases hs with hs | hs | hs | hs
      · exact absurd hs (own_apart h1.ot g.ob (by decide) x hx)
      · exact absurd hs (own_apart h1.ot g.oi (by decide) x hx)
      · exact absurd hs (own_apart h1.ot g.or (by decide) x hx)
      · exact hs) pt
    exact ⟨m2, b2, i2, r2, t2, ⟨L.fr.heap h1.blk (sls_ty g h1.blk (by decide) (by decide) (by decide) (by decide)), hob, hoi, hor, hot⟩, h2, h3, h4, h5, h6, h7,
      pre_ext (by decide) pb L.lie.1 h1.ob L.old.ob L.new.ob nb eb, pre_ext (by decide) pi L.lie.2.1 h1.oi L.old.oi L.new.oi ni ei, pre_ext (by decide) pr L.lie.2.2.1 h1.or L.old.or L.new.or nr er, pre_ext (by decide) pt L.lie.2.2.2 h1.ot L.old.ot L.new.ot nt et⟩
end

/-- 'marks', of a hold. -/
theorem marks_hold (w : World) (hb : Nat) (m : Int) (b i r t : Sl) (h : HoldS w hb m b i r t) (h0 : 0 ≤ m) (h1 : m ≤ 1000000000) (hs : small 1000000000 b i r t) :
    Calls Tryz.prog 45 #[.pointer (some ⟨hb, 0, none⟩)] w fun e w' => e = .returned (.tuple #[]) ∧
      HoldS w' hb m ⟨b.a, b.n, b.c, mB m b.n⟩ ⟨i.a, i.n, i.c, rep (mI m) i.n⟩ ⟨r.a, r.n, r.c, rep (mR m) r.n⟩ ⟨t.a, t.n, t.c, rep (mT m) t.n⟩ ∧ Fr (sls b i r t) w w' := by
  refine (marks_any hb m w b.a i.a r.a t.a b.n b.c i.n i.c r.n r.c t.n t.c b.xs i.xs r.xs t.xs h.blk h.ob h.oi h.or h.ot h0 h1 hs.1 hs.2.1 hs.2.2.1 hs.2.2.2).mono ?_
  rintro e w' ⟨he, o1, o2, o3, o4, f⟩
  exact ⟨he, ⟨f.heap h.blk (sls_ty h h.blk (by decide) (by decide) (by decide) (by decide)), o1, o2, o3, o4⟩, f⟩
end Go.Proofs.YtfniofpeilgnnaaGreat
