import Derived.Test.YtncaklmaacomnaaWDecode
namespace Go.Proofs.Ytncaklmaacomnaa
open Go.RowKit
set_option linter.unusedVariables false

/-- What 'keep' has not written: a slice of another type's block, or of another block. -/
theorem own_ks {w w' : World} {B wb : Nat} {ps : Value} {hs : List Nat} {F : Nat → Prop} {Q : Q4} {row : Sl} {hb : Nat} {m : Int} {b i r t : Sl} {e : TypeId} {size n : Nat} {v : Value} {xs : List Value} (h : w.ownsRow 0 e size v n xs)
    (hI : Inv w B wb ps hs F Q row) (hh : HoldS w hb m b i r t) (f : Fr (KS wb row hb b i r t) w w') (n1 : e ≠ 66) (n2 : e ≠ 82) (n3 : e ≠ 105) (ap : ∀ x, bk v x → ¬ sls b i r t x) : w'.ownsRow 0 e size v n xs :=
  own_fr h f (fun x hx hs => by
    rcases hs with hs | hs | hs | hs
    · exact own_ne h (by rw [hs]; exact hI.blk) n1 hx
    · obtain ⟨c, g, hy⟩ := hI.row_ty hs
      exact own_ne h hy n2 hx
    · exact own_ne h (by rw [hs]; exact hh.blk) n3 hx
    · exact ap x hx hs)
theorem blk_ks {w w' : World} {B wb : Nat} {ps : Value} {hs : List Nat} {F : Nat → Prop} {Q : Q4} {row : Sl} {hb : Nat} {m : Int} {b i r t : Sl} {e : TypeId} {k : Nat} {c : Array Value} {g : Nat × Nat} (h : w.heap[k]? = some (.cells c e g))
    (hI : Inv w B wb ps hs F Q row) (hh : HoldS w hb m b i r t) (f : Fr (KS wb row hb b i r t) w w') (n1 : 66 ≠ e) (n2 : 82 ≠ e) (n3 : 105 ≠ e) (n4 : 5 ≠ e) (n5 : 36 ≠ e) (n6 : 55 ≠ e) (n7 : 120 ≠ e) : w'.heap[k]? = some (.cells c e g) :=
  f.heap h (fun hs => by
    rcases hs with hs | hs | hs | hs
    · have := hI.blk; rw [← hs, h] at this; simp at this; exact n1 this.2.1.symm
    · obtain ⟨c', g', hy⟩ := hI.row_ty hs; rw [h] at hy; simp at hy; exact n2 hy.2.1.symm
    · have := hh.blk; rw [← hs, h] at this; simp at this; exact n3 this.2.1.symm
    · exact sls_ty hh h n4 n5 n6 n7 hs)

/-- The script's world at a step's head and end. -/
structure At (w : World) (B wb : Nat) (ps : Value) (hs : List Nat) : Prop where
  inv : ∃ row, Inv w B wb ps hs (fun x => x < w.heap.size) anyQ row
  le : B ≤ w.heap.size
theorem At.fr {w w' : World} {B wb : Nat} {ps : Value} {hs : List Nat} (h : At w B wb ps hs) (f : Fr nob w w') : At w' B wb ps hs := by
  obtain ⟨row, hI⟩ := h.inv
  have hsz := f.size
  exact ⟨⟨row, (hI.fr f (fun h => h) (fun _ _ h => h) (fun _ _ h => h)).mono (fun x _ hx => by omega) (fun _ _ _ _ _ h => h)⟩, by have := h.le; omega⟩
/-- Blocks from B on may turn. -/
def up (B : Nat) : Nat → Prop := fun k => B ≤ k

def oneB (s : Sl) (b i r t : Sl) : Prop := b = s ∧ i = nilS ∧ r = nilS ∧ t = nilS
theorem sls_b {s : Sl} {x : Nat} (h : sls s nilS nilS nilS x) : bk (.slice s.a s.n s.c) x := by
  rcases h with h | h | h | h
  · exact h
  all_goals simp [bk, nilS, Value.ownBlock] at h
theorem sls_i {s : Sl} {x : Nat} (h : sls nilS s nilS nilS x) : bk (.slice s.a s.n s.c) x := by
  rcases h with h | h | h | h
  · simp [bk, nilS, Value.ownBlock] at h
  · exact h
  all_goals simp [bk, nilS, Value.ownBlock] at h

/-- 'keep(&hold{bytes: c})' and 'keep(&hold{insns: l})', as they are used: the hold has just been laid. F: where the elder holds lie. -/
theorem keep_b (w : World) (B wb : Nat) (ps : Value) (hs : List Nat) (F : Nat → Prop) (row : Sl) (hI : Inv w B wb ps hs F anyQ row) (hF : ∀ x, F x → x < w.heap.size) (hB : B ≤ w.heap.size) (hlen : hs.length ≤ 100000000)
    (a : Option Addr) (n c : Nat) (xs : List Value) (ho : Own w 5 1 a n c xs) (hn : n ≤ 100000000) (hlo : ∀ x, bk (.slice a n c) x → B ≤ x ∧ ¬ F x) :
    Calls Try.prog 41 #[.pointer (some ⟨wb, 0, none⟩), .pointer (some ⟨w.heap.size, 0, none⟩)] (w.alloc (.cells #[.slice a n c, .slice none 0 0, .slice none 0 0, .slice none 0 0, .int .i64 0] 105)) fun e w' => e = .returned (.tuple #[]) ∧
      ∃ hs' row', Inv w' B wb ps hs' (fun x => (F x ∨ w.heap.size ≤ x ∨ bk (.slice a n c) x) ∧ x < w'.heap.size) anyQ row' ∧ hs'.length = hs.length + 4 ∧
        HoldS (w.alloc (.cells #[.slice a n c, .slice none 0 0, .slice none 0 0, .slice none 0 0, .int .i64 0] 105)) w.heap.size 0 ⟨a, n, c, xs⟩ nilS nilS nilS ∧
        Inv (w.alloc (.cells #[.slice a n c, .slice none 0 0, .slice none 0 0, .slice none 0 0, .int .i64 0] 105)) B wb ps hs F anyQ row ∧
        Fr (KS wb row w.heap.size ⟨a, n, c, xs⟩ nilS nilS nilS) (w.alloc (.cells #[.slice a n c, .slice none 0 0, .slice none 0 0, .slice none 0 0, .int .i64 0] 105)) w' ∧ Fr (up B) w w' := by
  have f0 : Fr nob w (w.alloc (.cells #[.slice a n c, .slice none 0 0, .slice none 0 0, .slice none 0 0, .int .i64 0] 105)) := (Fr.refl _ w).alloc _
  have hI0 := hI.fr f0 (fun h => h) (fun _ _ h => h) (fun _ _ h => h)
  have hh : HoldS (w.alloc (.cells #[.slice a n c, .slice none 0 0, .slice none 0 0, .slice none 0 0, .int .i64 0] 105)) w.heap.size 0 ⟨a, n, c, xs⟩ nilS nilS nilS :=
    ⟨heap_alloc_new w _, ho.alloc _, World.ownsRow_nil _ _ _ _, World.ownsRow_nil _ _ _ _, World.ownsRow_nil _ _ _ _⟩
  refine (keep_any _ B wb ps hs F row w.heap.size 0 _ _ _ _ hI0 hh (fun h => Nat.lt_irrefl _ (hF _ h)) (fun x hx => (hlo x (sls_b hx)).2) (by simp; omega) hlen ⟨hn, Nat.zero_le _, Nat.zero_le _, Nat.zero_le _⟩).mono ?_
  rintro e w' ⟨he, hs', row', hI', hl', f'⟩
  refine ⟨he, hs', row', hI'.mono (fun x hx h => ⟨?_, hx⟩) (fun _ _ _ _ _ h => h), hl', hh, hI0, f', (f0.mono (fun _ _ h => h.elim)).step f' (fun x hx h => ?_)⟩
  · rcases h with h | h | h | h
    · exact .inl h
    · exact .inr (.inl (by omega))
    · exact .inr (.inr (sls_b h))
    · exact .inr (.inl (by simp at h; omega))
  · rcases h with h | h | h | h
    · rw [h]; exact hI.lob
    · exact hI.lor x h
    · omega
    · exact (hlo x (sls_b h)).1
theorem keep_i (w : World) (B wb : Nat) (ps : Value) (hs : List Nat) (F : Nat → Prop) (row : Sl) (hI : Inv w B wb ps hs F anyQ row) (hF : ∀ x, F x → x < w.heap.size) (hB : B ≤ w.heap.size) (hlen : hs.length ≤ 100000000)
    (a : Option Addr) (n c : Nat) (xs : List Value) (ho : Own w 36 4 a n c xs) (hn : n ≤ 100000000) (hlo : ∀ x, bk (.slice a n c) x → B ≤ x ∧ ¬ F x) :
    Calls Try.prog 41 #[.pointer (some ⟨wb, 0, none⟩), .pointer (some ⟨w.heap.size, 0, none⟩)] (w.alloc (.cells #[.slice none 0 0, .slice a n c, .slice none 0 0, .slice none 0 0, .int .i64 0] 105)) fun e w' => e = .returned (.tuple #[]) ∧
      ∃ hs' row', Inv w' B wb ps hs' (fun x => (F x ∨ w.heap.size ≤ x ∨ bk (.slice a n c) x) ∧ x < w'.heap.size) anyQ row' ∧ hs'.length = hs.length + 4 ∧
        HoldS (w.alloc (.cells #[.slice none 0 0, .slice a n c, .slice none 0 0, .slice none 0 0, .int .i64 0] 105)) w.heap.size 0 nilS ⟨a, n, c, xs⟩ nilS nilS ∧
        Inv (w.alloc (.cells #[.slice none 0 0, .slice a n c, .slice none 0 0, .slice none 0 0, .int .i64 0] 105)) B wb ps hs F anyQ row ∧
        Fr (KS wb row w.heap.size nilS ⟨a, n, c, xs⟩ nilS nilS) (w.alloc (.cells #[.slice none 0 0, .slice a n c, .slice none 0 0, .slice none 0 0, .int .i64 0] 105)) w' ∧ Fr (up B) w w' := by
  have f0 : Fr nob w (w.alloc (.cells #[.slice none 0 0, .slice a n c, .slice none 0 0, .slice none 0 0, .int .i64 0] 105)) := (Fr.refl _ w).alloc _
  have hI0 := hI.fr f0 (fun h => h) (fun _ _ h => h) (fun _ _ h => h)
  have hh : HoldS (w.alloc (.cells #[.slice none 0 0, .slice a n c, .slice none 0 0, .slice none 0 0, .int .i64 0] 105)) w.heap.size 0 nilS ⟨a, n, c, xs⟩ nilS nilS :=
    ⟨heap_alloc_new w _, World.ownsRow_nil _ _ _ _, ho.alloc _, World.ownsRow_nil _ _ _ _, World.ownsRow_nil _ _ _ _⟩
  refine (keep_any _ B wb ps hs F row w.heap.size 0 _ _ _ _ hI0 hh (fun h => Nat.lt_irrefl _ (hF _ h)) (fun x hx => (hlo x (sls_i hx)).2) (by simp; omega) hlen ⟨Nat.zero_le _, hn, Nat.zero_le _, Nat.zero_le _⟩).mono ?_
  rintro e w' ⟨he, hs', row', hI', hl', f'⟩
  refine ⟨he, hs', row', hI'.mono (fun x hx h => ⟨?_, hx⟩) (fun _ _ _ _ _ h => h), hl', hh, hI0, f', (f0.mono (fun _ _ h => h.elim)).step f' (fun x hx h => ?_)⟩
  · rcases h with h | h | h | h
    · exact .inl h
    · exact .inr (.inl (by omega))
    · exact .inr (.inr (sls_i h))
    · exact .inr (.inl (by simp at h; omega))
  · rcases h with h | h | h | h
    · rw [h]; exact hI.lob
    · exact hI.lor x h
    · omega
    · exact (hlo x (sls_i h)).1
#print axioms keep_i
end Go.Proofs.Ytncaklmaacomnaa
