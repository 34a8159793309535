import Derived.Test.YtfniofpeilgnnaaLonger
namespace Go.Proofs.Ytfniofpeilgnnaa
open Go.RowKit
set_option linter.unusedVariables false

/-- Where two slices share a block, the first is the head of the second. -/
def PreS (size : Nat) (s s' : Sl) : Prop := ∀ x, bk (.slice s.a s.n s.c) x → bk (.slice s'.a s'.n s'.c) x → s.n ≤ s'.n ∧ s.c = s'.c ∧ s.xs = s'.xs.take (s.n * size)
theorem PreS.refl (size : Nat) (s : Sl) (h : s.xs.length = s.n * size) : PreS size s s := fun _ _ _ => ⟨Nat.le_refl _, rfl, by rw [List.take_of_length_le (by omega)]⟩
theorem PreS.apart {size : Nat} {s s' : Sl} (h : ∀ x, bk (.slice s.a s.n s.c) x → ¬ bk (.slice s'.a s'.n s'.c) x) : PreS size s s' := fun x h1 h2 => absurd h2 (h x h1)

theorem own_pre {S : Nat → Prop} {w w' : World} {e : TypeId} {size : Nat} {s s' : Sl} (h : Own w e size s.a s.n s.c s.xs) (h' : Own w' e size s'.a s'.n s'.c s'.xs) (f : Fr S w w')
    (hS : ∀ x, bk (.slice s.a s.n s.c) x → S x → bk (.slice s'.a s'.n s'.c) x) (p : PreS size s s') : Own w' e size s.a s.n s.c s.xs := by
  refine ⟨h.1, ?_⟩
  rcases h.2 with hn | ⟨g, cap, cur, hv, hb, hg, hnc, hcm, hcs, htake⟩
  · exact .inl hn
  · have hbk : bk (.slice s.a s.n s.c) g := by rw [hv]; simp [bk, Value.ownBlock]
    have hc : s.c = cap := by simp only [Value.slice.injEq] at hv; exact hv.2.2
    by_cases hg' : S g
    · have hb' := hS g hbk hg'
      obtain ⟨p1, p2, p3⟩ := p g hbk hb'
      rcases h'.2 with ⟨hn', _⟩ | ⟨g', cap', cur', hv', _, hg2, hnc', hcm', hcs', htake'⟩
      · rw [hn'] at hb'; simp [bk, Value.ownBlock] at hb'
      · have hc' : s'.c = cap' := by simp only [Value.slice.injEq] at hv'; exact hv'.2.2
        rw [hv'] at hb'
        simp only [bk, Value.ownBlock, Option.some.injEq] at hb'
        subst hb'
        refine .inr ⟨g', cap, cur', hv, hb, hg2, hnc, hcm, by rw [hcs', ← hc', ← p2, hc], ?_⟩
        rw [p3, ← htake', List.take_take, Nat.min_eq_left (Nat.mul_le_mul_right _ p1)]
    · exact .inr ⟨g, cap, cur, hv, hb, f.heap hg hg', hnc, hcm, hcs, htake⟩

theorem own_cap {w : World} {e : TypeId} {size : Nat} {s s' : Sl} (hsz : 0 < size) (h : Own w e size s.a s.n s.c s.xs) (h' : Own w e size s'.a s'.n s'.c s'.xs) {x : Nat} (hx : bk (.slice s.a s.n s.c) x) (hx' : bk (.slice s'.a s'.n s'.c) x) : s.c = s'.c := by
  rcases h.2 with ⟨hn, _⟩ | ⟨g, cap, cur, hv, _, hg, _, _, hcs, _⟩
  · rw [hn] at hx; simp [bk, Value.ownBlock] at hx
  rcases h'.2 with ⟨hn, _⟩ | ⟨g', cap', cur', hv', _, hg', _, _, hcs', _⟩
  · rw [hn] at hx'; simp [bk, Value.ownBlock] at hx'
  rw [hv] at hx; rw [hv'] at hx'
  simp only [bk, Value.ownBlock, Option.some.injEq] at hx hx'
  subst hx; subst hx'
  rw [hg] at hg'
  simp only [Option.some.injEq, Obj.cells.injEq] at hg'
  obtain ⟨rfl, _⟩ := hg'
  simp only [Value.slice.injEq] at hv hv'
  rw [hv.2.2, hv'.2.2]
  exact Nat.eq_of_mul_eq_mul_right hsz (hcs.symm.trans hcs')

theorem pre_ext {w w' : World} {e : TypeId} {size : Nat} {s p q : Sl} {y : List Value} (hsz : 0 < size) (h : PreS size s p) (hl : Lie w p q) (os : Own w e size s.a s.n s.c s.xs) (op : Own w' e size p.a p.n p.c p.xs) (oq : Own w' e size q.a q.n q.c q.xs)
    (hn : q.n = p.n + 1) (hx : q.xs = p.xs ++ y) : PreS size s q := fun x h1 h2 => by
  have hlt := own_lt os h1
  rcases hl x h2 with h3 | h3
  · obtain ⟨p1, p2, p3⟩ := h x h1 h3
    have hlen : s.n * size ≤ p.xs.length := by rw [op.1]; exact Nat.mul_le_mul_right _ p1
    refine ⟨by omega, p2.trans (own_cap hsz op oq h3 h2), ?_⟩
    rw [hx, List.take_append_of_le_length hlen]; exact p3
  · omega

/-- All its places are marked. -/
structure Mk (m : Int) (b i r t : Sl) : Prop where
  b : b.xs = mB m b.n
  i : i.xs = rep (mI m) i.n
  r : r.xs = rep (mR m) r.n
  t : t.xs = rep (mT m) t.n
abbrev Q4 := Sl → Sl → Sl → Sl → Prop
def anyQ : Q4 := fun _ _ _ _ => True
/-- Each of its slices is the head of the one that is named, where they share a block. -/
def preQ (b' i' r' t' : Sl) : Q4 := fun b i r t => PreS 1 b b' ∧ PreS 4 i i' ∧ PreS 3 r r' ∧ PreS 4 t t'
section
variable {w : World} {B wb : Nat} {ps : Value} {hs : List Nat} {F : Nat → Prop} {Q : Q4} {row : Sl}
end

section
variable {w w1 : World} {B wb gb gb2 : Nat} {m : Int} {ps : Value} {hs : List Nat} {F : Nat → Prop} {row : Sl} {b i r t b' i' r' t' : Sl} {yb yi yr yt : List Value}
end

end Go.Proofs.Ytfniofpeilgnnaa
