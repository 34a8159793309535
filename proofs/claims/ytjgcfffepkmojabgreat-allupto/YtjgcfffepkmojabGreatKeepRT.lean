import Derived.Test.YtjgcfffepkmojabGreatPolV
namespace Go.Proofs.YtjgcfffepkmojabGreat
open Go.RowKit
set_option linter.unusedVariables false

theorem sls_r {s : Sl} {x : Nat} (h : sls nilS nilS s nilS x) : bk (.slice s.a s.n s.c) x := by
  rcases h with h | h | h | h
  · simp [bk, nilS, Value.ownBlock] at h
  · simp [bk, nilS, Value.ownBlock] at h
  · exact h
  · simp [bk, nilS, Value.ownBlock] at h
theorem sls_t {s : Sl} {x : Nat} (h : sls nilS nilS nilS s x) : bk (.slice s.a s.n s.c) x := by
  rcases h with h | h | h | h
  · simp [bk, nilS, Value.ownBlock] at h
  · simp [bk, nilS, Value.ownBlock] at h
  · simp [bk, nilS, Value.ownBlock] at h
  · exact h
theorem keep_r (w : World) (B wb : Nat) (ps : Value) (hs : List Nat) (F : Nat → Prop) (row : Sl) (hI : Inv w B wb ps hs F anyQ row) (hF : ∀ x, F x → x < w.heap.size) (hB : B ≤ w.heap.size) (hlen : hs.length ≤ 100000000)
    (a : Option Addr) (n c : Nat) (xs : List Value) (ho : Own w 35 3 a n c xs) (hn : n ≤ 100000000) (hlo : ∀ x, bk (.slice a n c) x → B ≤ x ∧ ¬ F x) :
    Calls Tryz.prog 23 #[.pointer (some ⟨wb, 0, none⟩), .pointer (some ⟨w.heap.size, 0, none⟩)] (w.alloc (.cells #[.slice none 0 0, .slice none 0 0, .slice a n c, .slice none 0 0, .int .i64 0] 74)) fun e w' => e = .returned (.tuple #[]) ∧
      ∃ hs' row', Inv w' B wb ps hs' (fun x => (F x ∨ w.heap.size ≤ x ∨ bk (.slice a n c) x) ∧ x < w'.heap.size) anyQ row' ∧ hs'.length = hs.length + 4 ∧
        HoldS (w.alloc (.cells #[.slice none 0 0, .slice none 0 0, .slice a n c, .slice none 0 0, .int .i64 0] 74)) w.heap.size 0 nilS nilS ⟨a, n, c, xs⟩ nilS ∧
        Inv (w.alloc (.cells #[.slice none 0 0, .slice none 0 0, .slice a n c, .slice none 0 0, .int .i64 0] 74)) B wb ps hs F anyQ row ∧
        Fr (KS wb row w.heap.size nilS nilS ⟨a, n, c, xs⟩ nilS) (w.alloc (.cells #[.slice none 0 0, .slice none 0 0, .slice a n c, .slice none 0 0, .int .i64 0] 74)) w' ∧ ∀ S0, (∀ x, bk (.slice a n c) x → S0 ≤ x) → Ft B S0 w w' := by
  have f0 : Fr nob w (w.alloc (.cells #[.slice none 0 0, .slice none 0 0, .slice a n c, .slice none 0 0, .int .i64 0] 74)) := (Fr.refl _ w).alloc _
  have hI0 := hI.fr f0 (fun h => h) (fun _ _ h => h) (fun _ _ h => h)
  have hh : HoldS (w.alloc (.cells #[.slice none 0 0, .slice none 0 0, .slice a n c, .slice none 0 0, .int .i64 0] 74)) w.heap.size 0 nilS nilS ⟨a, n, c, xs⟩ nilS :=
    ⟨heap_alloc_new w _, World.ownsRow_nil _ _ _ _, World.ownsRow_nil _ _ _ _, ho.alloc _, World.ownsRow_nil _ _ _ _⟩
  refine (keep_any _ B wb ps hs F row w.heap.size 0 _ _ _ _ hI0 hh (fun h => Nat.lt_irrefl _ (hF _ h)) (fun x hx => (hlo x (sls_r hx)).2) (by simp; omega) hlen ⟨Nat.zero_le _, Nat.zero_le _, hn, Nat.zero_le _⟩).mono ?_
  rintro e w' ⟨he, hs', row', hI', hl', f'⟩
  refine ⟨he, hs', row', hI'.mono (fun x hx h => ⟨?_, hx⟩) (fun _ _ _ _ _ h => h), hl', hh, hI0, f', keep_ft hI f' _ (fun x h => sls_r h) (fun x h => (hlo x h).1)⟩
  · rcases h with h | h | h | h
    · exact .inl h
    · exact .inr (.inl (by omega))
    · exact .inr (.inr (sls_r h))
    · exact .inr (.inl (by simp at h; omega))
theorem keep_t (w : World) (B wb : Nat) (ps : Value) (hs : List Nat) (F : Nat → Prop) (row : Sl) (hI : Inv w B wb ps hs F anyQ row) (hF : ∀ x, F x → x < w.heap.size) (hB : B ≤ w.heap.size) (hlen : hs.length ≤ 100000000)
    (a : Option Addr) (n c : Nat) (xs : List Value) (ho : Own w 101 4 a n c xs) (hn : n ≤ 100000000) (hlo : ∀ x, bk (.slice a n c) x → B ≤ x ∧ ¬ F x) :
    Calls Tryz.prog 23 #[.pointer (some ⟨wb, 0, none⟩), .pointer (some ⟨w.heap.size, 0, none⟩)] (w.alloc (.cells #[.slice none 0 0, .slice none 0 0, .slice none 0 0, .slice a n c, .int .i64 0] 74)) fun e w' => e = .returned (.tuple #[]) ∧
      ∃ hs' row', Inv w' B wb ps hs' (fun x => (F x ∨ w.heap.size ≤ x ∨ bk (.slice a n c) x) ∧ x < w'.heap.size) anyQ row' ∧ hs'.length = hs.length + 4 ∧
        HoldS (w.alloc (.cells #[.slice none 0 0, .slice none 0 0, .slice none 0 0, .slice a n c, .int .i64 0] 74)) w.heap.size 0 nilS nilS nilS ⟨a, n, c, xs⟩ ∧
        Inv (w.alloc (.cells #[.slice none 0 0, .slice none 0 0, .slice none 0 0, .slice a n c, .int .i64 0] 74)) B wb ps hs F anyQ row ∧
        Fr (KS wb row w.heap.size nilS nilS nilS ⟨a, n, c, xs⟩) (w.alloc (.cells #[.slice none 0 0, .slice none 0 0, .slice none 0 0, .slice a n c, .int .i64 0] 74)) w' ∧ ∀ S0, (∀ x, bk (.slice a n c) x → S0 ≤ x) → Ft B S0 w w' := by
  have f0 : Fr nob w (w.alloc (.cells #[.slice none 0 0, .slice none 0 0, .slice none 0 0, .slice a n c, .int .i64 0] 74)) := (Fr.refl _ w).alloc _
  have hI0 := hI.fr f0 (fun h => h) (fun _ _ h => h) (fun _ _ h => h)
  have hh : HoldS (w.alloc (.cells #[.slice none 0 0, .slice none 0 0, .slice none 0 0, .slice a n c, .int .i64 0] 74)) w.heap.size 0 nilS nilS nilS ⟨a, n, c, xs⟩ :=
    ⟨heap_alloc_new w _, World.ownsRow_nil _ _ _ _, World.ownsRow_nil _ _ _ _, World.ownsRow_nil _ _ _ _, ho.alloc _⟩
  refine (keep_any _ B wb ps hs F row w.heap.size 0 _ _ _ _ hI0 hh (fun h => Nat.lt_irrefl _ (hF _ h)) (fun x hx => (hlo x (sls_t hx)).2) (by simp; omega) hlen ⟨Nat.zero_le _, Nat.zero_le _, Nat.zero_le _, hn⟩).mono ?_
  rintro e w' ⟨he, hs', row', hI', hl', f'⟩
  refine ⟨he, hs', row', hI'.mono (fun x hx h => ⟨?_, hx⟩) (fun _ _ _ _ _ h => h), hl', hh, hI0, f', keep_ft hI f' _ (fun x h => sls_t h) (fun x h => (hlo x h).1)⟩
  · rcases h with h | h | h | h
    · exact .inl h
    · exact .inr (.inl (by omega))
    · exact .inr (.inr (sls_t h))
    · exact .inr (.inl (by simp at h; omega))
#print axioms keep_t
end Go.Proofs.YtjgcfffepkmojabGreat
