import Derived.Test.YtfniofpeilgnnaaGreatWDecode
namespace Go.Proofs.YtfniofpeilgnnaaGreat
open Go.RowKit
set_option linter.unusedVariables false

/-- What 'keep' has not written: a slice of another type's block, or of another block. -/
theorem own_ks {w w' : World} {B wb : Nat} {ps : Value} {hs : List Nat} {F : Nat → Prop} {Q : Q4} {row : Sl} {hb : Nat} {m : Int} {b i r t : Sl} {e : TypeId} {size n : Nat} {v : Value} {xs : List Value} (h : w.ownsRow 0 e size v n xs)
    (hI : Inv w B wb ps hs F Q row) (hh : HoldS w hb m b i r t) (f : Fr (KS wb row hb b i r t) w w') (n1 : e ≠ 46) (n2 : e ≠ 64) (n3 : e ≠ 74) (ap : ∀ x, bk v x → ¬ sls b i r t x) : w'.ownsRow 0 e size v n xs :=
  own_fr h f (fun x hx hs => by
    rcases hs with hs | hs | hs | hs
    · exact own_ne h (by rw [hs]; exact hI.blk) n1 hx
    · obtain ⟨c, g, hy⟩ := hI.row_ty hs
      exact own_ne h hy n2 hx
    · exact own_ne h (by rw [hs]; exact hh.blk) n3 hx
    · exact ap x hx hs)
theorem blk_ks {w w' : World} {B wb : Nat} {ps : Value} {hs : List Nat} {F : Nat → Prop} {Q : Q4} {row : Sl} {hb : Nat} {m : Int} {b i r t : Sl} {e : TypeId} {k : Nat} {c : Array Value} {g : Nat × Nat} (h : w.heap[k]? = some (.cells c e g))
    (hI : Inv w B wb ps hs F Q row) (hh : HoldS w hb m b i r t) (f : Fr (KS wb row hb b i r t) w w') (n1 : 46 ≠ e) (n2 : 64 ≠ e) (n3 : 74 ≠ e) (n4 : 5 ≠ e) (n5 : 29 ≠ e) (n6 : 35 ≠ e) (n7 : 95 ≠ e) : w'.heap[k]? = some (.cells c e g) :=
  f.heap h (fun hs => by
    rcases hs with hs | hs | hs | hs
    · have := hI.blk; rw [← hs, h] at this; simp at this; exact n1 this.2.1.symm
    · obtain ⟨c', g', hy⟩ := hI.row_ty hs; rw [h] at hy; simp at hy; exact n2 hy.2.1.symm
    · have := hh.blk; rw [← hs, h] at this; simp at this; exact n3 this.2.1.symm
    · exact sls_ty hh h n4 n5 n6 n7 hs)

/-- The script's world at a step's head and end; F: blocks that its holds may lie in. -/
structure At (w : World) (B wb : Nat) (ps : Value) (hs : List Nat) (F : Nat → Prop) : Prop where
  inv : ∃ row, Inv w B wb ps hs F anyQ row
  lt : ∀ x, F x → x < w.heap.size
  le : B ≤ w.heap.size
/-- All blocks that there are. -/
abbrev AtA (w : World) (B wb : Nat) (ps : Value) (hs : List Nat) : Prop := At w B wb ps hs (fun x => x < w.heap.size)
/-- What a step may add to them. -/
abbrev grow (F : Nat → Prop) (w w' : World) : Nat → Prop := fun x => (F x ∨ w.heap.size ≤ x) ∧ x < w'.heap.size
theorem At.fr {w w' : World} {B wb : Nat} {ps : Value} {hs : List Nat} {F : Nat → Prop} (h : At w B wb ps hs F) (f : Fr nob w w') : At w' B wb ps hs F := by
  obtain ⟨row, hI⟩ := h.inv
  have hsz := f.size
  exact ⟨⟨row, hI.fr f (fun h => h) (fun _ _ h => h) (fun _ _ h => h)⟩, fun x hx => by have := h.lt x hx; omega, by have := h.le; omega⟩
theorem At.mono {w : World} {B wb : Nat} {ps : Value} {hs : List Nat} {F G : Nat → Prop} (h : At w B wb ps hs F) (hfg : ∀ x, F x → G x) (hG : ∀ x, G x → x < w.heap.size) : At w B wb ps hs G := by
  obtain ⟨row, hI⟩ := h.inv
  exact ⟨⟨row, hI.mono (fun x _ hx => hfg x hx) (fun _ _ _ _ _ h => h)⟩, hG, h.le⟩
theorem At.all {w : World} {B wb : Nat} {ps : Value} {hs : List Nat} {F : Nat → Prop} (h : At w B wb ps hs F) : AtA w B wb ps hs := h.mono h.lt (fun _ h => h)
theorem AtA.fr {w w' : World} {B wb : Nat} {ps : Value} {hs : List Nat} (h : AtA w B wb ps hs) (f : Fr nob w w') : AtA w' B wb ps hs := (At.fr h f).all
theorem At.wide {w w1 w' : World} {B wb : Nat} {ps : Value} {hs : List Nat} {F : Nat → Prop} (h : At w' B wb ps hs (grow F w1 w')) (hs1 : w.heap.size ≤ w1.heap.size) : At w' B wb ps hs (grow F w w') :=
  h.mono (fun x hx => ⟨hx.1.elim .inl (fun h => .inr (by omega)), hx.2⟩) (fun _ h => h.2)
/-- Blocks from B on may turn. -/
def up (B : Nat) : Nat → Prop := fun k => B ≤ k

/-- A block of the script's own world, or of its list of holds. -/
def TW (w : World) (x : Nat) : Prop := ∃ c t g, w.heap[x]? = some (.cells c t g) ∧ (t = 46 ∨ t = 64)
/-- Of the blocks below S0 only such ones turn, and none below B. -/
def Ft (B S0 : Nat) (w w' : World) : Prop := Fr (fun x => B ≤ x ∧ (S0 ≤ x ∨ TW w x)) w w'
theorem Ft.up {B S0 : Nat} {w w' : World} (f : Ft B S0 w w') : Fr (up B) w w' := Fr.mono f (fun _ _ h => h.1)
theorem Ft.size {B S0 : Nat} {w w' : World} (f : Ft B S0 w w') : w.heap.size ≤ w'.heap.size := Fr.size f
theorem Ft.ofNob {B S0 : Nat} {w w' : World} (f : Fr nob w w') : Ft B S0 w w' := f.mono (fun _ _ h => h.elim)
theorem Ft.trans {B S0 S1 : Nat} {a b c : World} (f : Ft B S0 a b) (g : Ft B S1 b c) (h : S0 ≤ S1) : Ft B S0 a c :=
  ⟨g.os.trans f.os, g.tape.trans f.tape, g.output.trans f.output, Nat.le_trans f.size g.size, fun x hx hS => by
    have h1 := f.block x hx hS
    rw [g.block x (Nat.lt_of_lt_of_le hx f.size) (fun hg => hS ⟨hg.1, hg.2.elim (fun h2 => .inl (by omega)) (fun ⟨c', t, k, h2, h3⟩ => .inr ⟨c', t, k, by rw [← h1]; exact h2, h3⟩)⟩)]
    exact h1⟩
theorem keep_ft {w w' : World} {B wb : Nat} {ps : Value} {hs : List Nat} {F : Nat → Prop} {Q : Q4} {row b i r t : Sl} {o : Obj} (hI : Inv w B wb ps hs F Q row) (f : Fr (KS wb row w.heap.size b i r t) (w.alloc o) w') (L : Nat → Prop) (hL : ∀ x, sls b i r t x → L x) (hLB : ∀ x, L x → B ≤ x) :
    ∀ S0, (∀ x, L x → S0 ≤ x) → Ft B S0 w w' := fun S0 h0 =>
  Fr.step ((Fr.refl _ w).alloc o) f (fun x hx h => by
    rcases h with h | h | h | h
    · rw [h]; exact ⟨hI.lob, .inr ⟨_, _, _, hI.blk, .inl rfl⟩⟩
    · obtain ⟨c, g, hy⟩ := hI.row_ty h
      exact ⟨hI.lor x h, .inr ⟨c, _, g, hy, .inr rfl⟩⟩
    · omega
    · exact ⟨hLB x (hL x h), .inl (h0 x (hL x h))⟩)

def oneB (s : Sl) (b i r t : Sl) : Prop := b = s ∧ i = nilS ∧ r = nilS ∧ t = nilS
theorem sls_b {s : Sl} {x : Nat} (h : sls s nilS nilS nilS x) : bk (.slice s.a s.n s.c) x := by
  rcases h with h | h | h | h
  · exact h
  all_goals simp [bk, nilS, Value.ownBlock] at h
theorem sls_i {s : Sl} {x : Nat} (h : sls nilS s nilS nilS x) : bk (.slice s.a s.n s.c) x := by
  rcases h with h | h | h | h
  · simp [bk, nilS, Value.ownBlock] at h
  · exact h
  all_goals simp [bk, nilS, Value.ownBlock] at h

/-- 'keep(&hold{bytes: c})' and 'keep(&hold{insns: l})', as they are used: the hold has just been laid. F: where the elder holds lie. -/
theorem keep_b (w : World) (B wb : Nat) (ps : Value) (hs : List Nat) (F : Nat → Prop) (row : Sl) (hI : Inv w B wb ps hs F anyQ row) (hF : ∀ x, F x → x < w.heap.size) (hB : B ≤ w.heap.size) (hlen : hs.length ≤ 100000000)
    (a : Option Addr) (n c : Nat) (xs : List Value) (ho : Own w 5 1 a n c xs) (hn : n ≤ 100000000) (hlo : ∀ x, bk (.slice a n c) x → B ≤ x ∧ ¬ F x) :
    Calls Tryz.prog 26 #[.pointer (some ⟨wb, 0, none⟩), .pointer (some ⟨w.heap.size, 0, none⟩)] (w.alloc (.cells #[.slice a n c, .slice none 0 0, .slice none 0 0, .slice none 0 0, .int .i64 0] 74)) fun e w' => e = .returned (.tuple #[]) ∧
      ∃ hs' row', Inv w' B wb ps hs' (fun x => (F x ∨ w.heap.size ≤ x ∨ bk (.slice a n c) x) ∧ x < w'.heap.size) anyQ row' ∧ hs'.length = hs.length + 4 ∧
        HoldS (w.alloc (.cells #[.slice a n c, .slice none 0 0, .slice none 0 0, .slice none 0 0, .int .i64 0] 74)) w.heap.size 0 ⟨a, n, c, xs⟩ nilS nilS nilS ∧
        Inv (w.alloc (.cells #[.slice a n c, .slice none 0 0, .slice none 0 0, .slice none 0 0, .int .i64 0] 74)) B wb ps hs F anyQ row ∧
        Fr (KS wb row w.heap.size ⟨a, n, c, xs⟩ nilS nilS nilS) (w.alloc (.cells #[.slice a n c, .slice none 0 0, .slice none 0 0, .slice none 0 0, .int .i64 0] 74)) w' ∧ ∀ S0, (∀ x, bk (.slice a n c) x → S0 ≤ x) → Ft B S0 w w' := by
  have f0 : Fr nob w (w.alloc (.cells #[.slice a n c, .slice none 0 0, .slice none 0 0, .slice none 0 0, .int .i64 0] 74)) := (Fr.refl _ w).alloc _
  have hI0 := hI.fr f0 (fun h => h) (fun _ _ h => h) (fun _ _ h => h)
  have hh : HoldS (w.alloc (.cells #[.slice a n c, .slice none 0 0, .slice none 0 0, .slice none 0 0, .int .i64 0] 74)) w.heap.size 0 ⟨a, n, c, xs⟩ nilS nilS nilS :=
    ⟨heap_alloc_new w _, ho.alloc _, World.ownsRow_nil _ _ _ _, World.ownsRow_nil _ _ _ _, World.ownsRow_nil _ _ _ _⟩
  refine (keep_any _ B wb ps hs F row w.heap.size 0 _ _ _ _ hI0 hh (fun h => Nat.lt_irrefl _ (hF _ h)) (fun x hx => (hlo x (sls_b hx)).2) (by simp; omega) hlen ⟨hn, Nat.zero_le _, Nat.zero_le _, Nat.zero_le _⟩).mono ?_
  rintro e w' ⟨he, hs', row', hI', hl', f'⟩
  refine ⟨he, hs', row', hI'.mono (fun x hx h => ⟨?_, hx⟩) (fun _ _ _ _ _ h => h), hl', hh, hI0, f', keep_ft hI f' _ (fun x h => sls_b h) (fun x h => (hlo x h).1)⟩
  · rcases h with h | h | h | h
    · exact .inl h
    · exact .inr (.inl (by omega))
    · exact .inr (.inr (sls_b h))
    · exact .inr (.inl (by simp at h; omega))
theorem keep_i (w : World) (B wb : Nat) (ps : Value) (hs : List Nat) (F : Nat → Prop) (row : Sl) (hI : Inv w B wb ps hs F anyQ row) (hF : ∀ x, F x → x < w.heap.size) (hB : B ≤ w.heap.size) (hlen : hs.length ≤ 100000000)
    (a : Option Addr) (n c : Nat) (xs : List Value) (ho : Own w 29 4 a n c xs) (hn : n ≤ 100000000) (hlo : ∀ x, bk (.slice a n c) x → B ≤ x ∧ ¬ F x) :
    Calls Tryz.prog 26 #[.pointer (some ⟨wb, 0, none⟩), .pointer (some ⟨w.heap.size, 0, none⟩)] (w.alloc (.cells #[.slice none 0 0, .slice a n c, .slice none 0 0, .slice none 0 0, .int .i64 0] 74)) fun e w' => e = .returned (.tuple #[]) ∧
      ∃ hs' row', Inv w' B wb ps hs' (fun x => (F x ∨ w.heap.size ≤ x ∨ bk (.slice a n c) x) ∧ x < w'.heap.size) anyQ row' ∧ hs'.length = hs.length + 4 ∧
        HoldS (w.alloc (.cells #[.slice none 0 0, .slice a n c, .slice none 0 0, .slice none 0 0, .int .i64 0] 74)) w.heap.size 0 nilS ⟨a, n, c, xs⟩ nilS nilS ∧
        Inv (w.alloc (.cells #[.slice none 0 0, .slice a n c, .slice none 0 0, .slice none 0 0, .int .i64 0] 74)) B wb ps hs F anyQ row ∧
        Fr (KS wb row w.heap.size nilS ⟨a, n, c, xs⟩ nilS nilS) (w.alloc (.cells #[.slice none 0 0, .slice a n c, .slice none 0 0, .slice none 0 0, .int .i64 0] 74)) w' ∧ ∀ S0, (∀ x, bk (.slice a n c) x → S0 ≤ x) → Ft B S0 w w' := by
  have f0 : Fr nob w (w.alloc (.cells #[.slice none 0 0, .slice a n c, .slice none 0 0, .slice none 0 0, .int .i64 0] 74)) := (Fr.refl _ w).alloc _
  have hI0 := hI.fr f0 (fun h => h) (fun _ _ h => h) (fun _ _ h => h)
  have hh : HoldS (w.alloc (.cells #[.slice none 0 0, .slice a n c, .slice none 0 0, .slice none 0 0, .int .i64 0] 74)) w.heap.size 0 nilS ⟨a, n, c, xs⟩ nilS nilS :=
    ⟨heap_alloc_new w _, World.ownsRow_nil _ _ _ _, ho.alloc _, World.ownsRow_nil _ _ _ _, World.ownsRow_nil _ _ _ _⟩
  refine (keep_any _ B wb ps hs F row w.heap.size 0 _ _ _ _ hI0 hh (fun h => Nat.lt_irrefl _ (hF _ h)) (fun x hx => (hlo x (sls_i hx)).2) (by simp; omega) hlen ⟨Nat.zero_le _, hn, Nat.zero_le _, Nat.zero_le _⟩).mono ?_
  rintro e w' ⟨he, hs', row', hI', hl', f'⟩
  refine ⟨he, hs', row', hI'.mono (fun x hx h => ⟨?_, hx⟩) (fun _ _ _ _ _ h => h), hl', hh, hI0, f', keep_ft hI f' _ (fun x h => sls_i h) (fun x h => (hlo x h).1)⟩
  · rcases h with h | h | h | h
    · exact .inl h
    · exact .inr (.inl (by omega))
    · exact .inr (.inr (sls_i h))
    · exact .inr (.inl (by simp at h; omega))
#print axioms keep_i
end Go.Proofs.YtfniofpeilgnnaaGreat
