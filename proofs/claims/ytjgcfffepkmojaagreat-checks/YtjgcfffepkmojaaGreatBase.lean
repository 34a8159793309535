import Derived.Test.YtjgcfffepkmojaaGreatProg
import Derived.WalkKit
import Derived.WalkSpells
import Derived.WalkLawsBesides
import Derived.BigQuiet
import Derived.BigRegion
import Derived.Deep.QuietTactic
import Derived.Deep.RegionWith
namespace Go.Proofs.YtjgcfffepkmojaaGreat
open Go.RowKit
set_option linter.unusedVariables false

/-- Outside the blocks of S all that lay in w lies in w' as it lay. -/
structure Fr (S : Nat → Prop) (w w' : World) : Prop where
  os : w'.os = w.os
  tape : w'.tape = w.tape
  output : w'.output = w.output
  size : w.heap.size ≤ w'.heap.size
  block : ∀ k, k < w.heap.size → ¬ S k → w'.heap[k]? = w.heap[k]?

/-- The block of a slice's value. -/
def bk (v : Value) (k : Nat) : Prop := v.ownBlock = some k
def nob (_ : Nat) : Prop := False

theorem Fr.refl (S : Nat → Prop) (w : World) : Fr S w w := ⟨rfl, rfl, rfl, Nat.le_refl _, fun _ _ _ => rfl⟩
theorem Fr.trans {S : Nat → Prop} {a b c : World} (h : Fr S a b) (k : Fr S b c) : Fr S a c :=
  ⟨k.os.trans h.os, k.tape.trans h.tape, k.output.trans h.output, Nat.le_trans h.size k.size,
   fun i hi hs => (k.block i (Nat.lt_of_lt_of_le hi h.size) hs).trans (h.block i hi hs)⟩
theorem Fr.mono {S T : Nat → Prop} {a b : World} (h : Fr S a b) (hst : ∀ k, k < a.heap.size → S k → T k) : Fr T a b :=
  ⟨h.os, h.tape, h.output, h.size, fun i hi hs => h.block i hi (fun e => hs (hst i hi e))⟩
/-- What the second step writes may be new to the first world. -/
theorem Fr.step {S T : Nat → Prop} {a b c : World} (h : Fr S a b) (k : Fr T b c) (hst : ∀ i, i < a.heap.size → T i → S i) : Fr S a c :=
  ⟨k.os.trans h.os, k.tape.trans h.tape, k.output.trans h.output, Nat.le_trans h.size k.size,
   fun i hi hs => (k.block i (Nat.lt_of_lt_of_le hi h.size) (fun e => hs (hst i hi e))).trans (h.block i hi hs)⟩
theorem Fr.drew {S : Nat → Prop} {a w : World} (h : Fr S a w) : Fr S a w.drew := ⟨h.os, h.tape, h.output, h.size, h.block⟩
theorem Fr.alloc {S : Nat → Prop} {a w : World} (h : Fr S a w) (o : Obj) : Fr S a (w.alloc o) :=
  h.trans ⟨rfl, rfl, rfl, by simp, fun k hk _ => Below.heap_alloc _ _ _ hk⟩
theorem Fr.setCell {S : Nat → Prop} {a w : World} (h : Fr S a w) {p : Addr} (hp : p.block < a.heap.size → S p.block) (u : Value) : Fr S a (w.setCell p u) :=
  ⟨h.os, h.tape, h.output, by simp [World.setCell]; exact h.size, fun k hk hs => (Below.heap_setCell _ _ _ _ (fun e => hs (by rw [e]; exact hp (by rw [← e]; exact hk)))).trans (h.block k hk hs)⟩
theorem Fr.grown {S : Nat → Prop} {a w w' : World} {row : Option Nat} (h : Fr S a w) (hg : w.grownBy w' row) (hr : ∀ k, k < a.heap.size → row = some k → S k) : Fr S a w' :=
  ⟨hg.os.trans h.os, hg.tape.trans h.tape, hg.output.trans h.output, Nat.le_trans h.size hg.size,
   fun k hk hs => (hg.block k (Nat.lt_of_lt_of_le hk h.size) (fun e => hs (hr k hk e.symm))).trans (h.block k hk hs)⟩
theorem Fr.heap {S : Nat → Prop} {w w' : World} (h : Fr S w w') {k : Nat} {o : Obj} (ho : w.heap[k]? = some o) (hs : ¬ S k) : w'.heap[k]? = some o :=
  (h.block k (Array.getElem?_eq_some_iff.1 ho).1 hs).trans ho
theorem Fr.below {w w' : World} (h : Fr nob w w') : Below w.heap.size w w' := ⟨h.os, h.tape, h.output, h.size, fun k hk => h.block k hk (fun e => e)⟩
theorem Fr.ofBelow {w w' : World} (h : Below w.heap.size w w') (S : Nat → Prop) : Fr S w w' := ⟨h.os, h.tape, h.output, h.size, fun k hk _ => h.block k hk⟩

/-- A slice of the call's own: its cells, as a list. -/
abbrev Own (w : World) (e : TypeId) (size : Nat) (ao : Option Addr) (n cap : Nat) (xs : List Value) : Prop := w.ownsRow 0 e size (.slice ao n cap) n xs

theorem own_ne {w : World} {e e' : TypeId} {size : Nat} {v : Value} {n k : Nat} {xs : List Value} {c : Array Value} {f : Nat × Nat}
    (h : w.ownsRow 0 e size v n xs) (hk : w.heap[k]? = some (.cells c e' f)) (hne : e ≠ e') : ¬ bk v k := by
  intro hb
  rcases h.2 with ⟨rfl, _⟩ | ⟨g, cap, cur, rfl, _, hg, _⟩
  · simp [bk, Value.ownBlock] at hb
  · simp [bk, Value.ownBlock] at hb
    subst hb
    rw [hg] at hk
    simp at hk
    exact hne hk.2.1

theorem own_apart {w : World} {e e' : TypeId} {size size' : Nat} {v v' : Value} {n n' : Nat} {xs xs' : List Value}
    (h : w.ownsRow 0 e size v n xs) (h' : w.ownsRow 0 e' size' v' n' xs') (hne : e ≠ e') (k : Nat) (hk : bk v k) : ¬ bk v' k := by
  rcases h.2 with ⟨rfl, _⟩ | ⟨g, cap, cur, rfl, _, hg, _⟩
  · simp [bk, Value.ownBlock] at hk
  · simp [bk, Value.ownBlock] at hk
    subst hk
    exact own_ne h' hg (Ne.symm hne)

theorem own_fr {S : Nat → Prop} {w w' : World} {e : TypeId} {size : Nat} {v : Value} {n : Nat} {xs : List Value}
    (h : w.ownsRow 0 e size v n xs) (f : Fr S w w') (hs : ∀ k, bk v k → ¬ S k) : w'.ownsRow 0 e size v n xs := by
  refine ⟨h.1, ?_⟩
  rcases h.2 with hn | ⟨g, cap, cur, rfl, hb, hgg, rest⟩
  · exact .inl hn
  · exact .inr ⟨g, cap, cur, rfl, hb, f.heap hgg (hs g (by simp [bk, Value.ownBlock])), rest⟩

theorem own_some {w : World} {e : TypeId} {size : Nat} {ao : Option Addr} {n cap k : Nat} {xs : List Value} (h : Own w e size ao n cap xs) (hk : k < n) : ∃ g, ao = some ⟨g, 0, none⟩ := by
  rcases h.2 with ⟨h1, h2⟩ | ⟨g, cap', cur, hv, _⟩
  · omega
  · simp at hv; exact ⟨g, hv.1⟩

theorem own_cell {w : World} {e : TypeId} {size g : Nat} {n cap : Nat} {xs : List Value} (h : Own w e size (some ⟨g, 0, none⟩) n cap xs) (j : Nat) (hj : j < xs.length) : w.cell? ⟨g, j, none⟩ = some (xs[j]'hj) := by
  rw [h.cellAt j (by have := h.1; omega)]; simp

theorem own_len {w : World} {e : TypeId} {size : Nat} {ao : Option Addr} {n cap : Nat} {xs : List Value} (h : Own w e size ao n cap xs) : xs.length = n * size := h.1

theorem cell_blk {w : World} {b j : Nat} {c : Array Value} {t : TypeId} {f : Nat × Nat} {v : Value} (h : w.heap[b]? = some (.cells c t f)) (hj : c[j]? = some v) : w.cell? ⟨b, j, none⟩ = some v :=
  (cell_of_row w b j c t f h).trans hj
theorem frozen_blk {w : World} {b j : Nat} {c : Array Value} {t : TypeId} (h : w.heap[b]? = some (.cells c t (0, 0))) : w.frozen? ⟨b, j, none⟩ = false := frozen_of_row w b j c t h

def sgn (m i : Int) : Int := wrap64 (m + wrap64 (i * (1 + m / 256))) % 256
/-- The marks, as cells. -/
def mB (m : Int) (n : Nat) : List Value := (List.range n).map fun j : Nat => Value.int .u8 (sgn m (j : Int))
def rep (r : List Value) : Nat → List Value
  | 0 => []
  | n + 1 => rep r n ++ r
theorem rep_len (r : List Value) (n : Nat) : (rep r n).length = n * r.length := by
  induction n with
  | zero => simp [rep]
  | succ n ih => simp [rep, ih, Nat.succ_mul]
theorem mB_len (m : Int) (n : Nat) : (mB m n).length = n := by simp [mB]
theorem mB_succ (m : Int) (n : Nat) : mB m (n + 1) = mB m n ++ [.int .u8 (sgn m n)] := by simp [mB, List.range_succ]
def mI (m : Int) : List Value := [.int .u16 7777, .int .u8 0, .int .u8 0, .int .u32 (m % 4294967296)]
def mR (m : Int) : List Value := [.int .u32 (m % 4294967296), .slice none 0 0, .int .u32 0]
def mT (m : Int) : List Value := [.int .i64 (-m), .int .i64 0, .int .u64 0, .int .u64 0]

theorem own_set1 {w : World} {e : TypeId} {size g n cap : Nat} {A B : List Value} (h : Own w e size (some ⟨g, 0, none⟩) n cap (A ++ B)) (hB : 1 ≤ B.length) {p : Nat} (hp : p = A.length) (a : Value) :
    Own (w.setCell ⟨g, p, none⟩ a) e size (some ⟨g, 0, none⟩) n cap (A ++ [a] ++ B.drop 1) := by
  subst hp
  match B, hB with
  | b :: B, _ =>
    have h1 := (h.stored A.length a).1
    simpa using h1
theorem own_set3 {w : World} {e : TypeId} {size g n cap : Nat} {A B : List Value} (h : Own w e size (some ⟨g, 0, none⟩) n cap (A ++ B)) (hB : 3 ≤ B.length) {p q r : Nat} (hp : p = A.length) (hq : q = A.length + 1) (hr : r = A.length + 2) (a b c : Value) :
    Own (((w.setCell ⟨g, p, none⟩ a).setCell ⟨g, q, none⟩ b).setCell ⟨g, r, none⟩ c) e size (some ⟨g, 0, none⟩) n cap (A ++ [a, b, c] ++ B.drop 3) := by
  have h1 := own_set1 h (by omega) hp a
  have h2 := own_set1 h1 (by simp; omega) (p := q) (by simp; omega) b
  rw [List.append_assoc A, List.drop_drop] at h2
  have h3 := own_set1 (A := A ++ ([a] ++ [b])) h2 (by simp; omega) (p := r) (by simp; omega) c
  simpa [List.drop_drop] using h3
theorem own_set4 {w : World} {e : TypeId} {size g n cap : Nat} {A B : List Value} (h : Own w e size (some ⟨g, 0, none⟩) n cap (A ++ B)) (hB : 4 ≤ B.length) {p q r t : Nat} (hp : p = A.length) (hq : q = A.length + 1) (hr : r = A.length + 2) (ht : t = A.length + 3) (a b c d : Value) :
    Own ((((w.setCell ⟨g, p, none⟩ a).setCell ⟨g, q, none⟩ b).setCell ⟨g, r, none⟩ c).setCell ⟨g, t, none⟩ d) e size (some ⟨g, 0, none⟩) n cap (A ++ [a, b, c, d] ++ B.drop 4) := by
  have h1 := own_set3 h (by omega) hp hq hr a b c
  have h2 := own_set1 h1 (by simp; omega) (p := t) (by simp; omega) d
  simpa [List.drop_drop] using h2
theorem own_drew {w : World} {e : TypeId} {size : Nat} {ao : Option Addr} {n cap : Nat} {xs : List Value} (h : Own w e size ao n cap xs) : Own w.drew e size ao n cap xs := h
theorem rep_step (r xs : List Value) (k s : Nat) (hs : r.length = s) : rep r k ++ r ++ List.drop s (List.drop (k * s) xs) = rep r (k + 1) ++ List.drop ((k + 1) * s) xs := by
  simp [rep, List.drop_drop, Nat.succ_mul, Nat.add_comm]
theorem mB_step (m : Int) (xs : List Value) (k : Nat) : mB m k ++ [Value.int .u8 (sgn m k)] ++ List.drop 1 (List.drop k xs) = mB m (k + 1) ++ List.drop (k + 1) xs := by
  simp [mB_succ, List.drop_drop]
/-- The four slices of a hold. -/
def bk4 (a b c d : Value) (k : Nat) : Prop := bk a k ∨ bk b k ∨ bk c k ∨ bk d k
/-- A slice, and what its cells hold. -/
structure Sl where
  a : Option Addr
  n : Nat
  c : Nat
  xs : List Value
/-- A hold: its block, its four slices. -/
structure HoldS (w : World) (hb : Nat) (m : Int) (b i r t : Sl) : Prop where
  blk : w.heap[hb]? = some (.cells #[.slice b.a b.n b.c, .slice i.a i.n i.c, .slice r.a r.n r.c, .slice t.a t.n t.c, .int .i64 m] 74 (0, 0))
  ob : Own w 5 1 b.a b.n b.c b.xs
  oi : Own w 29 4 i.a i.n i.c i.xs
  or : Own w 35 3 r.a r.n r.c r.xs
  ot : Own w 101 4 t.a t.n t.c t.xs
/-- The blocks of its slices. -/
def sls (b i r t : Sl) : Nat → Prop := bk4 (.slice b.a b.n b.c) (.slice i.a i.n i.c) (.slice r.a r.n r.c) (.slice t.a t.n t.c)
/-- All its slices are of no more places than what came in may have, eight more, and so many more. -/
def small (N : Nat) (b i r t : Sl) : Prop := b.n ≤ 140737488351240 + N ∧ i.n ≤ 17592186043912 + N ∧ r.n ≤ 3518437208788 + N ∧ t.n ≤ 4398046510984 + N
theorem HoldS.lt {w : World} {hb : Nat} {m : Int} {b i r t : Sl} (h : HoldS w hb m b i r t) : hb < w.heap.size := (Array.getElem?_eq_some_iff.1 h.blk).1
theorem own_lt {w : World} {e : TypeId} {size : Nat} {v : Value} {n k : Nat} {xs : List Value} (h : w.ownsRow 0 e size v n xs) (hk : bk v k) : k < w.heap.size := (h.lt k hk).2
theorem HoldS.sls_lt {w : World} {hb : Nat} {m : Int} {b i r t : Sl} (h : HoldS w hb m b i r t) {k : Nat} (hk : sls b i r t k) : k < w.heap.size := by
  rcases hk with hk | hk | hk | hk
  · exact own_lt h.ob hk
  · exact own_lt h.oi hk
  · exact own_lt h.or hk
  · exact own_lt h.ot hk
theorem HoldS.fr {S : Nat → Prop} {w w' : World} {hb : Nat} {m : Int} {b i r t : Sl} (h : HoldS w hb m b i r t) (f : Fr S w w') (h1 : ¬ S hb) (h2 : ∀ k, sls b i r t k → ¬ S k) : HoldS w' hb m b i r t :=
  ⟨f.heap h.blk h1, own_fr h.ob f (fun k hk => h2 k (.inl hk)), own_fr h.oi f (fun k hk => h2 k (.inr (.inl hk))), own_fr h.or f (fun k hk => h2 k (.inr (.inr (.inl hk)))), own_fr h.ot f (fun k hk => h2 k (.inr (.inr (.inr hk))))⟩
theorem heap_set {w : World} {g j : Nat} {c : Array Value} {t : TypeId} {f : Nat × Nat} {u : Value} (h : w.heap[g]? = some (.cells c t f)) : (w.setCell ⟨g, j, none⟩ u).heap[g]? = some (.cells (c.setIfInBounds j u) t f) := by
  simp [World.setCell, Array.getElem?_modify, h]
theorem fr_set (w : World) (g j : Nat) (u : Value) : Fr (fun k => k = g) w (w.setCell ⟨g, j, none⟩ u) := (Fr.refl (fun k => k = g) w).setCell (p := ⟨g, j, none⟩) (fun _ => rfl) u
end Go.Proofs.YtjgcfffepkmojaaGreat
