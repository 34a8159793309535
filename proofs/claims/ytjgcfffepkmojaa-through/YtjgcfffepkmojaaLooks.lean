import Derived.Test.YtjgcfffepkmojaaBase
import Derived.Deep.AppendLies
import Derived.Deep.RegionHeld3
import Derived.Deep.DeepCutAuto
namespace Go.Proofs.Ytjgcfffepkmojaa
open Go.RowKit
set_option linter.unusedVariables false

section
variable {P : Program} (w : World)

/-- append onto a slice of the call's own: the new one, THE OLD ONE AS IT WAS, what may have been written. -/
theorem run_append_keep (t ty e : TypeId) (i : TypeInfo) (z : Value) (size bytes : Nat) (ht : P.underlying t = some (.slice e)) (hi : P.info? e = some i) (hz : i.zero = some z)
    (hsize : i.size = size) (hby : i.bytes = bytes) (hzs : z.cells.size = size) (hsz : 0 < size)
    (ao : Option Addr) (n cap : Nat) (xs : List Value) (hown : Own w e size ao n cap xs)
    (ad : Addr) (m c : Nat) (news : List Value) (hl : news.length = m * size) (hnews : ∀ j u, news[j]? = some u → w.cell? (ad.add j) = some u) (h1 : ∀ u ∈ news, u.oneCell' = true)
    (hm : 0 < m) (h63 : n + m ≤ maxLen) (hbytes : (n + m) * bytes ≤ 140737488355328) (H : Nat) (hH : w.heap.size = H) :
    ∃ g cap' w', (Builtin.append_ #[t, t] ty #[.slice ao n cap, .slice (some ad) m c]).run P w = .ok (.slice (some ⟨g, 0, none⟩) (n + m) cap') w' ∧
      Own w' e size (some ⟨g, 0, none⟩) (n + m) cap' (xs ++ news) ∧ Own w' e size ao n cap xs ∧ Fr (bk (.slice ao n cap)) w w' ∧ (bk (.slice ao n cap) g ∨ g = H) := by
  subst hsize
  subst hby
  subst hH
  have hsmall : n + m ≤ 9223372036854775807 := by simp only [maxLen] at h63; omega
  have hlen : (xs ++ news).length = (n + m) * i.size := by rw [List.length_append, hown.1, hl, Nat.add_mul]
  have grown : ∀ (old : Nat), old < n + m →
      (w.drew.alloc (.cells (xs.toArray ++ news.toArray ++ Builtin.zeroCells z.cells (grownCap w (n + m) old e - (n + m))) e)).ownsRow 0 e i.size
        (.slice (some ⟨w.heap.size, 0, none⟩) (n + m) (grownCap w (n + m) old e)) (n + m) (xs ++ news) := by
    intro old ho
    have hge := grownCap_ge w (n + m) old e
    have hcm : grownCap w (n + m) old e ≤ maxLen := grownCap_le_maxLen w (n + m) old e h63
    refine ⟨hlen, .inr ⟨w.heap.size, _, _, rfl, Nat.zero_le _, heap_alloc_new w.drew _, hge, hcm, ?_, ?_⟩⟩
    · simp only [Array.size_append, List.size_toArray, size_zeroCells, hzs, hown.1, hl, ← Nat.add_mul]
      congr 1
      omega
    · simp only [Array.toList_append, List.append_assoc]
      rw [← List.append_assoc, ← hlen]
      exact List.take_left
  have fr : ∀ o S, Fr S w (w.drew.alloc o) := fun o S => ((Fr.refl S w).drew).alloc o
  rcases hown.2 with ⟨hv, hn0⟩ | ⟨g, cap', cur, hv, hbg, hg, hnc, hcm, hcs, htake⟩
  · simp only [Value.slice.injEq] at hv
    obtain ⟨rfl, hn', rfl⟩ := hv
    subst hn'
    have hx : xs = [] := List.eq_nil_of_length_eq_zero (by simpa using hown.1)
    subst hx
    have hr := run_append_nil (P := P) w t ty e i z ht hi hz ad m c news hl hnews (by omega) (by omega) (by have hb := hbytes; simp only [Nat.zero_add] at hb; omega)
    have hgr := grown 0 (by omega)
    simp only [Nat.zero_add, List.nil_append, Array.empty_append] at hgr ⊢
    exact ⟨_, _, _, hr, hgr, World.ownsRow_nil _ _ _ _, fr _ _, .inr rfl⟩
  · simp only [Value.slice.injEq, true_and] at hv
    obtain ⟨rfl, rfl⟩ := hv
    by_cases hroom : n + m ≤ cap
    · have hfit : n * i.size + news.length ≤ cur.size := by rw [hl, hcs, ← Nat.add_mul]; exact Nat.mul_le_mul_right _ hroom
      have hr := run_append_room (P := P) w t ty e i ht hi g n cap cur hg ad m c news hl hnews h1 hroom hfit
      refine ⟨_, _, _, hr, ⟨hlen, .inr ⟨g, cap, _, rfl, hbg, setRow_heap w g cur _ e _ hg, hroom, hcm, ?_, ?_⟩⟩, ⟨hown.1, .inr ⟨g, cap, _, rfl, hbg, setRow_heap w g cur _ e _ hg, hnc, hcm, ?_, ?_⟩⟩,
        ⟨rfl, rfl, rfl, by simp, fun k _ hk => setRow_other w g k _ (fun e => hk (by simp [bk, Value.ownBlock, e]))⟩, .inl (by simp [bk, Value.ownBlock])⟩
      · simp only [List.size_toArray, List.length_append, List.length_take, List.length_drop, Array.length_toList]
        omega
      · rw [htake, ← hlen]
        exact List.take_left
      · simp only [List.size_toArray, List.length_append, List.length_take, List.length_drop, Array.length_toList]
        omega
      · rw [htake, List.append_assoc, ← hown.1]
        exact List.take_left
    · have holds : ∀ j u, xs[j]? = some u → w.cell? ((⟨g, 0, none⟩ : Addr).add j) = some u := hown.cells (g := g) rfl
      have hr := run_append_grow (P := P) w t ty e i z ht hi hz ⟨g, 0, none⟩ n cap xs hown.1 holds ad m c news hl hnews (by omega) (by omega) (growslice_fits (by omega) hbytes)
      exact ⟨_, _, _, hr, grown cap (by omega), own_fr hown (fr _ nob) (fun _ _ h => h), fr _ _, .inr rfl⟩

theorem wp_append_keep {o : Oper} {a : Act} {K : Act → World → Prop} {Q : Exit → Act → World → Prop} (s x : Operand) (t : TypeId)
    (ho : o.op = .call { callee := .builtin .append, args := #[s, x], argTypes := #[t, t] })
    (e : TypeId) (i : TypeInfo) (z : Value) (size bytes : Nat) (ht : P.underlying t = some (.slice e)) (hi : P.info? e = some i) (hz : i.zero = some z)
    (hsize : i.size = size) (hby : i.bytes = bytes) (hzs : z.cells.size = size) (hsz : 0 < size)
    (ao : Option Addr) (n cap : Nat) (xs : List Value) (hs : a.eval s = .slice ao n cap) (hown : Own w e size ao n cap xs)
    (ad : Addr) (m c : Nat) (news : List Value) (hx : a.eval x = .slice (some ad) m c) (hl : news.length = m * size) (hnews : ∀ j u, news[j]? = some u → w.cell? (ad.add j) = some u) (h1 : ∀ u ∈ news, u.oneCell' = true)
    (hm : 0 < m) (h63 : n + m ≤ maxLen) (hbytes : (n + m) * bytes ≤ 140737488355328) (H : Nat) (hH : w.heap.size = H)
    (h : ∀ g cap' w', Own w' e size (some ⟨g, 0, none⟩) (n + m) cap' (xs ++ news) → Own w' e size ao n cap xs → Fr (bk (.slice ao n cap)) w w' → (bk (.slice ao n cap) g ∨ g = H) → K (a.put o.dst (.slice (some ⟨g, 0, none⟩) (n + m) cap')) w') : o.wp P a w K Q := by
  obtain ⟨g, cap', w', hr, h2, h3, h4, h5⟩ := run_append_keep (P := P) w t o.type e i z size bytes ht hi hz hsize hby hzs hsz ao n cap xs hown ad m c news hl hnews h1 hm h63 hbytes H hH
  unfold Oper.wp execOp
  simp only [ho, resolve, invoke, builtin, Sem.run_bind, Sem.run_pure, Result.andThen_ok, List.map_toArray, List.map_cons, List.map_nil, hs, hx, hr]
  exact h g cap' w' h2 h3 h4 h5

theorem wpList_append_keep {ops : Array Oper} {rest : List Oper} {o : Oper} {a : Act} {Q : Exit → Act → World → Prop} (hgd : o.guard = none) (s x : Operand) (t : TypeId)
    (ho : o.op = .call { callee := .builtin .append, args := #[s, x], argTypes := #[t, t] })
    (e : TypeId) (i : TypeInfo) (z : Value) (size bytes : Nat) (ht : P.underlying t = some (.slice e)) (hi : P.info? e = some i) (hz : i.zero = some z)
    (hsize : i.size = size) (hby : i.bytes = bytes) (hzs : z.cells.size = size) (hsz : 0 < size)
    (ao : Option Addr) (n cap : Nat) (xs : List Value) (hs : a.eval s = .slice ao n cap) (hown : Own w e size ao n cap xs)
    (ad : Addr) (m c : Nat) (news : List Value) (hx : a.eval x = .slice (some ad) m c) (hl : news.length = m * size) (hnews : ∀ j u, news[j]? = some u → w.cell? (ad.add j) = some u) (h1 : ∀ u ∈ news, u.oneCell' = true)
    (hm : 0 < m) (h63 : n + m ≤ maxLen) (hbytes : (n + m) * bytes ≤ 140737488355328) (H : Nat) (hH : w.heap.size = H)
    (h : ∀ g cap' w', Own w' e size (some ⟨g, 0, none⟩) (n + m) cap' (xs ++ news) → Own w' e size ao n cap xs → Fr (bk (.slice ao n cap)) w w' → (bk (.slice ao n cap) g ∨ g = H) → wpList P ops Q rest (a.put o.dst (.slice (some ⟨g, 0, none⟩) (n + m) cap')) w') : wpList P ops Q (o :: rest) a w :=
  wpList_plain hgd fun _ hK => wp_append_keep w s x t ho e i z size bytes ht hi hz hsize hby hzs hsz ao n cap xs hs hown ad m c news hx hl hnews h1 hm h63 hbytes H hH fun g cap' w' h2 h3 h4 h5 => hK _ _ (h g cap' w' h2 h3 h4 h5)

theorem step_append_keep {ops : Array Oper} {o : Oper} {a : Act} {K : Act → World → Prop} {Q : Exit → Act → World → Prop} {E : Prop} (hgd : o.guard = none) (s x : Operand) (t : TypeId)
    (ho : o.op = .call { callee := .builtin .append, args := #[s, x], argTypes := #[t, t] })
    (e : TypeId) (i : TypeInfo) (z : Value) (size bytes : Nat) (ht : P.underlying t = some (.slice e)) (hi : P.info? e = some i) (hz : i.zero = some z)
    (hsize : i.size = size) (hby : i.bytes = bytes) (hzs : z.cells.size = size) (hsz : 0 < size)
    (ao : Option Addr) (n cap : Nat) (xs : List Value) (hs : a.eval s = .slice ao n cap) (hown : Own w e size ao n cap xs)
    (ad : Addr) (m c : Nat) (news : List Value) (hx : a.eval x = .slice (some ad) m c) (hl : news.length = m * size) (hnews : ∀ j u, news[j]? = some u → w.cell? (ad.add j) = some u) (h1 : ∀ u ∈ news, u.oneCell' = true)
    (hm : 0 < m) (h63 : n + m ≤ maxLen) (hbytes : (n + m) * bytes ≤ 140737488355328) (H : Nat) (hH : w.heap.size = H)
    (h : ∀ g cap' w', Own w' e size (some ⟨g, 0, none⟩) (n + m) cap' (xs ++ news) → Own w' e size ao n cap xs → Fr (bk (.slice ao n cap)) w w' → (bk (.slice ao n cap) g ∨ g = H) → K (a.put o.dst (.slice (some ⟨g, 0, none⟩) (n + m) cap')) w') :
    if Region.wanted o (yielded ops a.tmps) = true then Oper.wp P o a w K Q else E := by
  have hw : Region.wanted o (yielded ops a.tmps) = true := by simp [Region.wanted, hgd]
  rw [if_pos hw]
  exact wp_append_keep w s x t ho e i z size bytes ht hi hz hsize hby hzs hsz ao n cap xs hs hown ad m c news hx hl hnews h1 hm h63 hbytes H hH h
end
#print axioms step_append_keep
end Go.Proofs.Ytjgcfffepkmojaa

namespace Go.Proofs.Ytjgcfffepkmojaa
open Go.RowKit
set_option linter.unusedVariables false

end Go.Proofs.Ytjgcfffepkmojaa

namespace Go.Proofs.Ytjgcfffepkmojaa
open Go.RowKit
set_option linter.unusedVariables false

theorem info_u8 : (Try.prog.info? 5).map (fun i => (i.zero, i.size, i.bytes)) = some (some (.int .u8 0), 1, 1) := by kernel_rfl
theorem info_insn : (Try.prog.info? 32).map (fun i => (i.zero, i.size, i.bytes)) = some (some (.agg #[.int .u16 0, .int .u8 0, .int .u8 0, .int .u32 0]), 4, 8) := by kernel_rfl
theorem info_rule : (Try.prog.info? 54).map (fun i => (i.zero, i.size, i.bytes)) = some (some (.agg #[.int .u32 0, .slice none 0 0, .int .u32 0]), 3, 40) := by kernel_rfl
theorem info_test : (Try.prog.info? 56).map (fun i => (i.zero, i.size, i.bytes)) = some (some (.agg #[.int .i64 0, .int .i64 0, .int .u64 0, .int .u64 0]), 4, 32) := by kernel_rfl

theorem Fr.drewN {S : Nat → Prop} {a w : World} (h : Fr S a w) (n : Nat) : Fr S a (w.drewN n) := ⟨h.os, h.tape, h.output, h.size, h.block⟩
def nilS : Sl := ⟨none, 0, 0, []⟩

/-- The new slice lies where the old one lies, or in a block that is new. -/
def Lie (w : World) (s s' : Sl) : Prop := ∀ k, bk (.slice s'.a s'.n s'.c) k → bk (.slice s.a s.n s.c) k ∨ w.heap.size ≤ k
theorem lie_nil (w : World) (s : Sl) : Lie w s nilS := fun k hk => by simp [bk, nilS, Value.ownBlock] at hk
theorem lie_some {w : World} {s : Sl} {g n c H : Nat} {xs : List Value} (h : bk (.slice s.a s.n s.c) g ∨ g = H) (hH : w.heap.size ≤ H) : Lie w s ⟨some ⟨g, 0, none⟩, n, c, xs⟩ := fun k hk => by
  simp only [bk, Value.ownBlock, Option.some.injEq] at hk
  subst hk
  rcases h with h | h
  · exact .inl h
  · exact .inr (by omega)

theorem own_keep {wc w1 : World} {el : Obj} {e e' : TypeId} {size size' : Nat} {v v' : Value} {n n' : Nat} {xs xs' : List Value} (h : wc.ownsRow 0 e size v n xs) (hs : wc.ownsRow 0 e' size' v' n' xs') (ne : e ≠ e')
    (f : Fr (bk v') (wc.alloc el) w1) : w1.ownsRow 0 e size v n xs :=
  own_fr (h.alloc el) f (fun k hk => own_apart (h.alloc el) (hs.alloc el) ne k hk)
theorem own_put {w1 : World} {e t : TypeId} {size gb j : Nat} {v u : Value} {n : Nat} {xs : List Value} {c : Array Value} {f : Nat × Nat} (h : w1.ownsRow 0 e size v n xs) (hg : w1.heap[gb]? = some (.cells c t f)) (ne : e ≠ t) :
    (w1.setCell ⟨gb, j, none⟩ u).ownsRow 0 e size v n xs :=
  own_fr h (fr_set w1 gb j u) (fun k hk hk' => own_ne h (by rw [← hk'] at hg; exact hg) ne hk)
theorem blk_alloc {w : World} {o o' : Obj} {k : Nat} (h : w.heap[k]? = some o) : (w.alloc o').heap[k]? = some o := (Below.heap_alloc w o' k (Array.getElem?_eq_some_iff.1 h).1).trans h
theorem blk_put {w1 : World} {gb j k : Nat} {u : Value} {o : Obj} (h : w1.heap[k]? = some o) (hne : k ≠ gb) : (w1.setCell ⟨gb, j, none⟩ u).heap[k]? = some o := (fr_set w1 gb j u).heap h hne

section
variable {w : World} {hb gb : Nat} {m : Int} {b i r t b' i' r' t' : Sl} {wc w1 : World} {el : Obj} {g cap' : Nat} {x : List Value}
end

theorem Fr.undrew {S : Nat → Prop} {a w : World} (h : Fr S a.drew w) : Fr S a w := ⟨h.os, h.tape, h.output, h.size, h.block⟩
theorem one_of (l : List Value) (h : l.all Value.oneCell' = true) : ∀ u ∈ l, u.oneCell' = true := fun u hu => List.all_eq_true.1 h u hu

theorem wrapI64n (m : Int) (h0 : 0 ≤ m) (h1 : m ≤ 1000000000) : IntKind.i64.wrap (-m) = -m := by
  simp [IntKind.wrap_i64]; omega
theorem wrapU32 (m : Int) (h0 : 0 ≤ m) (h1 : m ≤ 1000000000) : IntKind.u32.wrap m = m := by
  simp [IntKind.wrap, IntKind.bits, IntKind.signed]; omega
end Go.Proofs.Ytjgcfffepkmojaa

namespace Go.Proofs.Ytjgcfffepkmojaa
open Go.RowKit
set_option linter.unusedVariables false

/-- Where two slices share a block, the first is the head of the second. -/
def PreS (size : Nat) (s s' : Sl) : Prop := ∀ x, bk (.slice s.a s.n s.c) x → bk (.slice s'.a s'.n s'.c) x → s.n ≤ s'.n ∧ s.c = s'.c ∧ s.xs = s'.xs.take (s.n * size)
theorem PreS.refl (size : Nat) (s : Sl) (h : s.xs.length = s.n * size) : PreS size s s := fun _ _ _ => ⟨Nat.le_refl _, rfl, by rw [List.take_of_length_le (by omega)]⟩
theorem PreS.apart {size : Nat} {s s' : Sl} (h : ∀ x, bk (.slice s.a s.n s.c) x → ¬ bk (.slice s'.a s'.n s'.c) x) : PreS size s s' := fun x h1 h2 => absurd h2 (h x h1)

theorem own_pre {S : Nat → Prop} {w w' : World} {e : TypeId} {size : Nat} {s s' : Sl} (h : Own w e size s.a s.n s.c s.xs) (h' : Own w' e size s'.a s'.n s'.c s'.xs) (f : Fr S w w')
    (hS : ∀ x, bk (.slice s.a s.n s.c) x → S x → bk (.slice s'.a s'.n s'.c) x) (p : PreS size s s') : Own w' e size s.a s.n s.c s.xs := by
  refine ⟨h.1, ?_⟩
  rcases h.2 with hn | ⟨g, cap, cur, hv, hb, hg, hnc, hcm, hcs, htake⟩
  · exact .inl hn
  · have hbk : bk (.slice s.a s.n s.c) g := by rw [hv]; simp [bk, Value.ownBlock]
    have hc : s.c = cap := by simp only [Value.slice.injEq] at hv; exact hv.2.2
    by_cases hg' : S g
    · have hb' := hS g hbk hg'
      obtain ⟨p1, p2, p3⟩ := p g hbk hb'
      rcases h'.2 with ⟨hn', _⟩ | ⟨g', cap', cur', hv', _, hg2, hnc', hcm', hcs', htake'⟩
      · rw [hn'] at hb'; simp [bk, Value.ownBlock] at hb'
      · have hc' : s'.c = cap' := by simp only [Value.slice.injEq] at hv'; exact hv'.2.2
        rw [hv'] at hb'
        simp only [bk, Value.ownBlock, Option.some.injEq] at hb'
        subst hb'
        refine .inr ⟨g', cap, cur', hv, hb, hg2, hnc, hcm, by rw [hcs', ← hc', ← p2, hc], ?_⟩
        rw [p3, ← htake', List.take_take, Nat.min_eq_left (Nat.mul_le_mul_right _ p1)]
    · exact .inr ⟨g, cap, cur, hv, hb, f.heap hg hg', hnc, hcm, hcs, htake⟩

theorem own_cap {w : World} {e : TypeId} {size : Nat} {s s' : Sl} (hsz : 0 < size) (h : Own w e size s.a s.n s.c s.xs) (h' : Own w e size s'.a s'.n s'.c s'.xs) {x : Nat} (hx : bk (.slice s.a s.n s.c) x) (hx' : bk (.slice s'.a s'.n s'.c) x) : s.c = s'.c := by
  rcases h.2 with ⟨hn, _⟩ | ⟨g, cap, cur, hv, _, hg, _, _, hcs, _⟩
  · rw [hn] at hx; simp [bk, Value.ownBlock] at hx
  rcases h'.2 with ⟨hn, _⟩ | ⟨g', cap', cur', hv', _, hg', _, _, hcs', _⟩
  · rw [hn] at hx'; simp [bk, Value.ownBlock] at hx'
  rw [hv] at hx; rw [hv'] at hx'
  simp only [bk, Value.ownBlock, Option.some.injEq] at hx hx'
  subst hx; subst hx'
  rw [hg] at hg'
  simp only [Option.some.injEq, Obj.cells.injEq] at hg'
  obtain ⟨rfl, _⟩ := hg'
  simp only [Value.slice.injEq] at hv hv'
  rw [hv.2.2, hv'.2.2]
  exact Nat.eq_of_mul_eq_mul_right hsz (hcs.symm.trans hcs')

theorem pre_ext {w w' : World} {e : TypeId} {size : Nat} {s p q : Sl} {y : List Value} (hsz : 0 < size) (h : PreS size s p) (hl : Lie w p q) (os : Own w e size s.a s.n s.c s.xs) (op : Own w' e size p.a p.n p.c p.xs) (oq : Own w' e size q.a q.n q.c q.xs)
    (hn : q.n = p.n + 1) (hx : q.xs = p.xs ++ y) : PreS size s q := fun x h1 h2 => by
  have hlt := own_lt os h1
  rcases hl x h2 with h3 | h3
  · obtain ⟨p1, p2, p3⟩ := h x h1 h3
    have hlen : s.n * size ≤ p.xs.length := by rw [op.1]; exact Nat.mul_le_mul_right _ p1
    refine ⟨by omega, p2.trans (own_cap hsz op oq h3 h2), ?_⟩
    rw [hx, List.take_append_of_le_length hlen]; exact p3
  · omega

/-- All its places are marked. -/
structure Mk (m : Int) (b i r t : Sl) : Prop where
  b : b.xs = mB m b.n
  i : i.xs = rep (mI m) i.n
  r : r.xs = rep (mR m) r.n
  t : t.xs = rep (mT m) t.n
abbrev Q4 := Sl → Sl → Sl → Sl → Prop
def anyQ : Q4 := fun _ _ _ _ => True
/-- Each of its slices is the head of the one that is named, where they share a block. -/
def preQ (b' i' r' t' : Sl) : Q4 := fun b i r t => PreS 1 b b' ∧ PreS 4 i i' ∧ PreS 3 r r' ∧ PreS 4 t t'
section
variable {w : World} {B wb : Nat} {ps : Value} {hs : List Nat} {F : Nat → Prop} {Q : Q4} {row : Sl}
end

section
variable {w w1 : World} {B wb gb gb2 : Nat} {m : Int} {ps : Value} {hs : List Nat} {F : Nat → Prop} {row : Sl} {b i r t b' i' r' t' : Sl} {yb yi yr yt : List Value}
end

end Go.Proofs.Ytjgcfffepkmojaa

namespace Go.Proofs.Ytjgcfffepkmojaa
open Go.RowKit
set_option linter.unusedVariables false

/-- Where the holds may lie behind 'keep'. -/
def KF (F : Nat → Prop) (w : World) (hb : Nat) (b i r t : Sl) : Nat → Prop := fun x => F x ∨ x = hb ∨ sls b i r t x ∨ w.heap.size ≤ x
/-- What 'keep' may write. -/
def KS (wb : Nat) (row : Sl) (hb : Nat) (b i r t : Sl) : Nat → Prop := fun x => x = wb ∨ bk (.slice row.a row.n row.c) x ∨ x = hb ∨ sls b i r t x

section
variable {w : World} {B wb : Nat} {ps : Value} {hs : List Nat} {F : Nat → Prop} {row : Sl} {hb : Nat} {b i r t : Sl} {m m0 : Int}

theorem own_xs {w : World} {e : TypeId} {size : Nat} {s : Sl} (h : Own w e size s.a s.n s.c s.xs) : PreS size s s := PreS.refl size s h.1

end

end Go.Proofs.Ytjgcfffepkmojaa

namespace Go.Proofs.Ytjgcfffepkmojaa
open Go.RowKit
set_option linter.unusedVariables false

theorem rep_get (r : List Value) (n k j : Nat) (hk : k < n) (hj : j < r.length) : (rep r n)[k * r.length + j]? = r[j]? := by
  induction n with
  | zero => omega
  | succ n ih =>
    have hl := rep_len r n
    rw [rep]
    by_cases h : k < n
    · have : k * r.length + j < n * r.length := by
        have := Nat.mul_le_mul_right r.length (show k + 1 ≤ n from h)
        rw [Nat.succ_mul] at this; omega
      rw [List.getElem?_append_left (by omega)]; exact ih h
    · have : k = n := by omega
      subst this
      rw [List.getElem?_append_right (by omega), hl, Nat.add_sub_cancel_left]
theorem mB_get (m : Int) (n k : Nat) (hk : k < n) : (mB m n)[k]? = some (.int .u8 (sgn m k)) := by
  simp [mB, hk]
theorem own_get {w : World} {e : TypeId} {size g : Nat} {n cap : Nat} {xs : List Value} (h : Own w e size (some ⟨g, 0, none⟩) n cap xs) {j : Nat} {v : Value} (hj : xs[j]? = some v) : w.cell? ⟨g, j, none⟩ = some v := by
  have hlt : j < xs.length := (List.getElem?_eq_some_iff.1 hj).1
  rw [own_cell h j hlt]; rw [List.getElem?_eq_some_iff] at hj; exact congrArg some hj.2

end Go.Proofs.Ytjgcfffepkmojaa
