import Derived.Test.YtjgcfffepkmojaaGreatWDecode
namespace Go.Proofs.YtjgcfffepkmojaaGreat
open Go.RowKit
set_option linter.unusedVariables false

/-- What 'keep' has not written: a slice of another type's block, or of another block. -/
theorem own_ks {w w' : World} {B wb : Nat} {ps : Value} {hs : List Nat} {F : Nat → Prop} {Q : Q4} {row : Sl} {hb : Nat} {m : Int} {b i r t : Sl} {e : TypeId} {size n : Nat} {v : Value} {xs : List Value} (h : w.ownsRow 0 e size v n xs)
    (hI : Inv w B wb ps hs F Q row) (hh : HoldS w hb m b i r t) (f : Fr (KS wb row hb b i r t) w w') (n1 : e ≠ 46) (n2 : e ≠ 64) (n3 : e ≠ 74) (ap : ∀ x, bk v x → ¬ sls b i r t x) : w'.ownsRow 0 e size v n xs :=
  own_fr h f (fun x hx hs => by
    rcases hs with hs | hs | hs | hs
    · exact own_ne h (by rw [hs]; exact hI.blk) n1 hx
    · obtain ⟨c, g, hy⟩ := hI.row_ty hs
      exact own_ne h hy n2 hx
    · exact own_ne h (by rw [hs]; exact hh.blk) n3 hx
    · exact ap x hx hs)
theorem blk_ks {w w' : World} {B wb : Nat} {ps : Value} {hs : List Nat} {F : Nat → Prop} {Q : Q4} {row : Sl} {hb : Nat} {m : Int} {b i r t : Sl} {e : TypeId} {k : Nat} {c : Array Value} {g : Nat × Nat} (h : w.heap[k]? = some (.cells c e g))
    (hI : Inv w B wb ps hs F Q row) (hh : HoldS w hb m b i r t) (f : Fr (KS wb row hb b i r t) w w') (n1 : 46 ≠ e) (n2 : 64 ≠ e) (n3 : 74 ≠ e) (n4 : 5 ≠ e) (n5 : 29 ≠ e) (n6 : 35 ≠ e) (n7 : 101 ≠ e) : w'.heap[k]? = some (.cells c e g) :=
  f.heap h (fun hs => by
    rcases hs with hs | hs | hs | hs
    · have := hI.blk; rw [← hs, h] at this; simp at this; exact n1 this.2.1.symm
    · obtain ⟨c', g', hy⟩ := hI.row_ty hs; rw [h] at hy; simp at hy; exact n2 hy.2.1.symm
    · have := hh.blk; rw [← hs, h] at this; simp at this; exact n3 this.2.1.symm
    · exact sls_ty hh h n4 n5 n6 n7 hs)

/-- The script's world at a step's head and end; F: blocks that its holds may lie in. -/
structure At (w : World) (B wb : Nat) (ps : Value) (hs : List Nat) (F : Nat → Prop) : Prop where
  inv : ∃ row, Inv w B wb ps hs F anyQ row
  lt : ∀ x, F x → x < w.heap.size
  le : B ≤ w.heap.size
/-- All blocks that there are. -/
abbrev AtA (w : World) (B wb : Nat) (ps : Value) (hs : List Nat) : Prop := At w B wb ps hs (fun x => x < w.heap.size)
/-- What a step may add to them. -/
abbrev grow (F : Nat → Prop) (w w' : World) : Nat → Prop := fun x => (F x ∨ w.heap.size ≤ x) ∧ x < w'.heap.size
theorem At.fr {w w' : World} {B wb : Nat} {ps : Value} {hs : List Nat} {F : Nat → Prop} (h : At w B wb ps hs F) (f : Fr nob w w') : At w' B wb ps hs F := by
  obtain ⟨row, hI⟩ := h.inv
  have hsz := f.size
  exact ⟨⟨row, hI.fr f (fun h => h) (fun _ _ h => h) (fun _ _ h => h)⟩, fun x hx => by have := h.lt x hx; omega, by have := h.le; omega⟩
theorem At.mono {w : World} {B wb : Nat} {ps : Value} {hs : List Nat} {F G : Nat → Prop} (h : At w B wb ps hs F) (hfg : ∀ x, F x → G x) (hG : ∀ x, G x → x < w.heap.size) : At w B wb ps hs G := by
  obtain ⟨row, hI⟩ := h.inv
  exact ⟨⟨row, hI.mono (fun x _ hx => hfg x hx) (fun _ _ _ _ _ h => h)⟩, hG, h.le⟩
theorem At.all {w : World} {B wb : Nat} {ps : Value} {hs : List Nat} {F : Nat → Prop} (h : At w B wb ps hs F) : AtA w B wb ps hs := h.mono h.lt (fun _ h => h)
theorem AtA.fr {w w' : World} {B wb : Nat} {ps : Value} {hs : List Nat} (h : AtA w B wb ps hs) (f : Fr nob w w') : AtA w' B wb ps hs := (At.fr h f).all
theorem At.wide {w w1 w' : World} {B wb : Nat} {ps : Value} {hs : List Nat} {F : Nat → Prop} (h : At w' B wb ps hs (grow F w1 w')) (hs1 : w.heap.size ≤ w1.heap.size) : At w' B wb ps hs (grow F w w') :=
  h.mono (fun x hx => ⟨hx.1.elim .inl (fun h => .inr (by omega)), hx.2⟩) (fun _ h => h.2)
/-- Blocks from B on may turn. -/
def up (B : Nat) : Nat → Prop := fun k => B ≤ k

/-- A block of the script's own world, or of its list of holds. -/
def TW (w : World) (x : Nat) : Prop := ∃ c t g, w.heap[x]? = some (.cells c t g) ∧ (t = 46 ∨ t = 64)
/-- Of the blocks below S0 only such ones turn, and none below B. -/
def Ft (B S0 : Nat) (w w' : World) : Prop := Fr (fun x => B ≤ x ∧ (S0 ≤ x ∨ TW w x)) w w'
theorem Ft.up {B S0 : Nat} {w w' : World} (f : Ft B S0 w w') : Fr (up B) w w' := Fr.mono f (fun _ _ h => h.1)
theorem Ft.size {B S0 : Nat} {w w' : World} (f : Ft B S0 w w') : w.heap.size ≤ w'.heap.size := Fr.size f
theorem Ft.ofNob {B S0 : Nat} {w w' : World} (f : Fr nob w w') : Ft B S0 w w' := f.mono (fun _ _ h => h.elim)
theorem Ft.trans {B S0 S1 : Nat} {a b c : World} (f : Ft B S0 a b) (g : Ft B S1 b c) (h : S0 ≤ S1) : Ft B S0 a c :=
  ⟨g.os.trans f.os, g.tape.trans f.tape, g.output.trans f.output, Nat.le_trans f.size g.size, fun x hx hS => by
    have h1 := f.block x hx hS
    rw [g.block x (Nat.lt_of_lt_of_le hx f.size) (fun hg => hS ⟨hg.1, hg.2.elim (fun h2 => .inl (by omega)) (fun ⟨c', t, k, h2, h3⟩ => .inr ⟨c', t, k, by rw [← h1]; exact h2, h3⟩)⟩)]
    exact h1⟩
theorem keep_ft {w w' : World} {B wb : Nat} {ps : Value} {hs : List Nat} {F : Nat → Prop} {Q : Q4} {row b i r t : Sl} {o : Obj} (hI : Inv w B wb ps hs F Q row) (f : Fr (KS wb row w.heap.size b i r t) (w.alloc o) w') (L : Nat → Prop) (hL : ∀ x, sls b i r t x → L x) (hLB : ∀ x, L x → B ≤ x) :
    ∀ S0, (∀ x, L x → S0 ≤ x) → Ft B S0 w w' := fun S0 h0 =>
  Fr.step ((Fr.refl _ w).alloc o) f (fun x hx h => by
    rcases h with h | h | h | h
    · rw [h]; exact ⟨hI.lob, .inr ⟨_, _, _, hI.blk, .inl rfl⟩⟩
    · obtain ⟨c, g, hy⟩ := hI.row_ty h
      exact ⟨hI.lor x h, .inr ⟨c, _, g, hy, .inr rfl⟩⟩
    · omega
    · exact ⟨hLB x (hL x h), .inl (h0 x (hL x h))⟩)

def oneB (s : Sl) (b i r t : Sl) : Prop := b = s ∧ i = nilS ∧ r = nilS ∧ t = nilS
theorem sls_b {s : Sl} {x : Nat} (h : sls s nilS nilS nilS x) : bk (.slice s.a s.n s.c) x := by
  rcases h with h | h | h | h
  · exact h
  all_goals simp [bk, nilS, Value.ownBlock] at h
theorem sls_i {s : Sl} {x : Nat} (h : sls nilS s nilS nilS x) : bk (.slice s.a s.n s.c) x := by
  rcases h with h | h | h | h
  · simp [bk, nilS, Value.ownBlock] at h
  · exact h
  all_goals simp [bk, nilS, Value.ownBlock] at h

/-- 'keep(&hold{bytes: c})' and 'keep(&hold{insns: l})', as they are used: the hold has just been laid. F: where the elder holds lie. -/
theorem keep_b (w : World) (B wb : Nat) (ps : Value) (hs : List Nat) (F : Nat → Prop) (row : Sl) (hI : Inv w B wb ps hs F anyQ row) (hF : ∀ x, F x → x < w.heap.size) (hB : B ≤ w.heap.size) (hlen : hs.length ≤ 10000000000000)
    (a : Option Addr) (n c : Nat) (xs : List Value) (ho : Own w 5 1 a n c xs) (hn : n ≤ 140737488351240) (hlo : ∀ x, bk (.slice a n c) x → B ≤ x ∧ ¬ F x) :
    Calls Tryz.prog 27 #[.pointer (some ⟨wb, 0, none⟩), .pointer (some ⟨w.heap.size, 0, none⟩)] (w.alloc (.cells #[.slice a n c, .slice none 0 0, .slice none 0 0, .slice none 0 0, .int .i64 0] 74)) fun e w' => e = .returned (.tuple #[]) ∧
      ∃ hs' row', Inv w' B wb ps hs' (fun x => (F x ∨ w.heap.size ≤ x ∨ bk (.slice a n c) x) ∧ x < w'.heap.size) anyQ row' ∧ hs'.length = hs.length + 4 ∧
        HoldS (w.alloc (.cells #[.slice a n c, .slice none 0 0, .slice none 0 0, .slice none 0 0, .int .i64 0] 74)) w.heap.size 0 ⟨a, n, c, xs⟩ nilS nilS nilS ∧
        Inv (w.alloc (.cells #[.slice a n c, .slice none 0 0, .slice none 0 0, .slice none 0 0, .int .i64 0] 74)) B wb ps hs F anyQ row ∧
        Fr (KS wb row w.heap.size ⟨a, n, c, xs⟩ nilS nilS nilS) (w.alloc (.cells #[.slice a n c, .slice none 0 0, .slice none 0 0, .slice none 0 0, .int .i64 0] 74)) w' ∧ ∀ S0, (∀ x, bk (.slice a n c) x → S0 ≤ x) → Ft B S0 w w' := by
  have f0 : Fr nob w (w.alloc (.cells #[.slice a n c, .slice none 0 0, .slice none 0 0, .slice none 0 0, .int .i64 0] 74)) := (Fr.refl _ w).alloc _
  have hI0 := hI.fr f0 (fun h => h) (fun _ _ h => h) (fun _ _ h => h)
  have hh : HoldS (w.alloc (.cells #[.slice a n c, .slice none 0 0, .slice none 0 0, .slice none 0 0, .int .i64 0] 74)) w.heap.size 0 ⟨a, n, c, xs⟩ nilS nilS nilS :=
    ⟨heap_alloc_new w _, ho.alloc _, World.ownsRow_nil _ _ _ _, World.ownsRow_nil _ _ _ _, World.ownsRow_nil _ _ _ _⟩
  refine (keep_any _ B wb ps hs F row w.heap.size 0 _ _ _ _ hI0 hh (fun h => Nat.lt_irrefl _ (hF _ h)) (fun x hx => (hlo x (sls_b hx)).2) (by simp; omega) hlen ⟨hn, Nat.zero_le _, Nat.zero_le _, Nat.zero_le _⟩).mono ?_
  rintro e w' ⟨he, hs', row', hI', hl', f'⟩
  refine ⟨he, hs', row', hI'.mono (fun x hx h => ⟨?_, hx⟩) (fun _ _ _ _ _ h => h), hl', hh, hI0, f', keep_ft hI f' _ (fun x h => sls_b h) (fun x h => (hlo x h).1)⟩
  · rcases h with h | h | h | h
    · exact .inl h
    · exact .inr (.inl (by omega))
    · exact .inr (.inr (sls_b h))
    · exact .inr (.inl (by simp at h; omega))
theorem keep_i (w : World) (B wb : Nat) (ps : Value) (hs : List Nat) (F : Nat → Prop) (row : Sl) (hI : Inv w B wb ps hs F anyQ row) (hF : ∀ x, F x → x < w.heap.size) (hB : B ≤ w.heap.size) (hlen : hs.length ≤ 10000000000000)
    (a : Option Addr) (n c : Nat) (xs : List Value) (ho : Own w 29 4 a n c xs) (hn : n ≤ 17592186043912) (hlo : ∀ x, bk (.slice a n c) x → B ≤ x ∧ ¬ F x) :
    Calls Tryz.prog 27 #[.pointer (some ⟨wb, 0, none⟩), .pointer (some ⟨w.heap.size, 0, none⟩)] (w.alloc (.cells #[.slice none 0 0, .slice a n c, .slice none 0 0, .slice none 0 0, .int .i64 0] 74)) fun e w' => e = .returned (.tuple #[]) ∧
      ∃ hs' row', Inv w' B wb ps hs' (fun x => (F x ∨ w.heap.size ≤ x ∨ bk (.slice a n c) x) ∧ x < w'.heap.size) anyQ row' ∧ hs'.length = hs.length + 4 ∧
        HoldS (w.alloc (.cells #[.slice none 0 0, .slice a n c, .slice none 0 0, .slice none 0 0, .int .i64 0] 74)) w.heap.size 0 nilS ⟨a, n, c, xs⟩ nilS nilS ∧
        Inv (w.alloc (.cells #[.slice none 0 0, .slice a n c, .slice none 0 0, .slice none 0 0, .int .i64 0] 74)) B wb ps hs F anyQ row ∧
        Fr (KS wb row w.heap.size nilS ⟨a, n, c, xs⟩ nilS nilS) (w.alloc (.cells #[.slice none 0 0, .slice a n c, .slice none 0 0, .slice none 0 0, .int .i64 0] 74)) w' ∧ ∀ S0, (∀ x, bk (.slice a n c) x → S0 ≤ x) → Ft B S0 w w' := by
  have f0 : Fr nob w (w.alloc (.cells #[.slice none 0 0, .slice a n c, .slice none 0 0, .slice none 0 0, .int .i64 0] 74)) := (Fr.refl _ w).alloc _
  have hI0 := hI.fr f0 (fun h => h) (fun _ _ h => h) (fun _ _ h => h)
  have hh : HoldS (w.alloc (.cells #[.slice none 0 0, .slice a n c, .slice none 0 0, .slice none 0 0, .int .i64 0] 74)) w.heap.size 0 nilS ⟨a, n, c, xs⟩ nilS nilS :=
    ⟨heap_alloc_new w _, World.ownsRow_nil _ _ _ _, ho.alloc _, World.ownsRow_nil _ _ _ _, World.ownsRow_nil _ _ _ _⟩
  refine (keep_any _ B wb ps hs F row w.heap.size 0 _ _ _ _ hI0 hh (fun h => Nat.lt_irrefl _ (hF _ h)) (fun x hx => (hlo x (sls_i hx)).2) (by simp; omega) hlen ⟨Nat.zero_le _, hn, Nat.zero_le _, Nat.zero_le _⟩).mono ?_
  rintro e w' ⟨he, hs', row', hI', hl', f'⟩
  refine ⟨he, hs', row', hI'.mono (fun x hx h => ⟨?_, hx⟩) (fun _ _ _ _ _ h => h), hl', hh, hI0, f', keep_ft hI f' _ (fun x h => sls_i h) (fun x h => (hlo x h).1)⟩
  · rcases h with h | h | h | h
    · exact .inl h
    · exact .inr (.inl (by omega))
    · exact .inr (.inr (sls_i h))
    · exact .inr (.inl (by simp at h; omega))
#print axioms keep_i
end Go.Proofs.YtjgcfffepkmojaaGreat

namespace Go.Proofs.YtjgcfffepkmojaaGreat
open Go.RowKit
set_option linter.unusedVariables false

/-- The value of a step. -/
abbrev opV (kind N : Int) (ao : Option Addr) (n cap : Nat) (s : ByteArray) (q0 : Int) (a1 : Option Addr) (n1 c1 : Nat) (q2 q3 : Int) (a2 : Option Addr) (n2 c2 : Nat) : Value :=
  .agg #[.int .i64 kind, .int .i64 N, .slice ao n cap, .string s, .int .u32 q0, .slice a1 n1 c1, .int .u32 q2, .int .u32 q3, .slice a2 n2 c2]

set_option maxRecDepth 100000 in
set_option maxHeartbeats 4000000 in
theorem plain_decode_ok (w : World) (B wb : Nat) (ps : Value) (hs : List Nat) (F : Nat → Prop) (hA : At w B wb ps hs F) (hlen : hs.length ≤ 9900000000000) (N q0 q2 q3 : Int) (a1 a2 : Option Addr) (n1 c1 n2 c2 : Nat)
    (ao : Option Addr) (cap : Nat) (l : List Ins) (hv : View w ao (flat l)) (hz : ao = none → l.length = 0) (hl : l.length ≤ 17592186043904) (s : ByteArray) (n : Nat) (hn : s.size = n * 8) (h0 : 0 < n) (h4 : n ≤ 4096) :
    Calls Tryz.prog 13 #[.pointer (some ⟨wb, 0, none⟩), opV 1 N ao l.length cap s q0 a1 n1 c1 q2 q3 a2 n2 c2] w fun e w' => e = .returned (.bool true) ∧ ∃ hs', At w' B wb ps hs' (grow F w w') ∧ hs'.length = hs.length + 8 ∧ Ft B w.heap.size w w' := by
  have HN := hide hn
  have hsz : s.size ≤ 32768 := by omega
  clear hn
  obtain ⟨row, hI⟩ := hA.inv
  have hB := hA.le
  have HFL := hide hA.lt
  have HZ := hide hz
  clear hz
  go_enter Tryz.func13, Tryz.ntmps13
  go_wp2_with fail
  have f0 : Fr nob w (w.alloc (.cells #[.int .i64 1, .int .i64 N, .slice ao l.length cap, .string s, .int .u32 q0, .slice a1 n1 c1, .int .u32 q2, .int .u32 q3, .slice a2 n2 c2] 41)) := (Fr.refl _ w).alloc _
  have k0 : (w.alloc (.cells #[.int .i64 1, .int .i64 N, .slice ao l.length cap, .string s, .int .u32 q0, .slice a1 n1 c1, .int .u32 q2, .int .u32 q3, .slice a2 n2 c2] 41)).heap[w.heap.size]? = some (.cells #[.int .i64 1, .int .i64 N, .slice ao l.length cap, .string s, .int .u32 q0, .slice a1 n1 c1, .int .u32 q2, .int .u32 q3, .slice a2 n2 c2] 41 (0, 0)) := heap_alloc_new w _
  refine (program_any _ ao cap l (hv.fr0 f0) HZ.out (by omega)).mono ?_
  rintro e w1 ⟨rfl, ob, f1⟩
  have k1 := f1.heap k0 (fun h => h)
  have F1 : Fr nob w w1 := f0.trans f1
  have c0 : w1.cell? ⟨w.heap.size, 0, none⟩ = some (.int .i64 1) := cell_blk k1 rfl
  have c3 : w1.cell? ⟨w.heap.size, 3, none⟩ = some (.string s) := cell_blk k1 rfl
  clear f0 k0 f1 ob
  go_wp2_with fail
  refine (lent_any _ s (by omega)).mono ?_
  rintro e w2 ⟨rfl, oc, f2⟩
  have k2 := f2.heap k1 (fun h => h)
  have d3 : w2.cell? ⟨w.heap.size, 3, none⟩ = some (.string s) := cell_blk k2 rfl
  have F2 : Fr nob w w2 := F1.trans f2
  have hc2 : w.heap.size ≤ w1.heap.size := F1.size
  have hseg : Seg w2 w1.heap.size 0 (bcs s) := fun j v hj => by
    rw [Nat.zero_add]; exact own_get oc (by rw [List.getElem?_append_left (List.getElem?_eq_some_iff.1 hj).1]; exact hj)
  clear c0 c3 k1 f2
  go_wp2_with fail
  refine (sDecode_ok _ w1.heap.size 0 (s.size + 8) s n HN.out h0 h4 (by omega) hseg).mono ?_
  rintro e w3 ⟨rfl, ol, f3⟩
  have k3 := f3.heap k2 (fun h => h)
  have d4 : w3.cell? ⟨w.heap.size, 3, none⟩ = some (.string s) := cell_blk k3 rfl
  have F3 : Fr nob w w3 := F2.trans f3
  have oc3 := own_fr oc f3 (fun _ _ h => h)
  have hc3 : w.heap.size ≤ w2.heap.size := F2.size
  have hc23 : w1.heap.size < w2.heap.size := own_lt oc (by simp [bk, Value.ownBlock])
  clear d3 k2 f3 hseg oc
  go_wp2_with fail
  refine (rDecode_ok _ s n HN.out h0 h4).mono ?_
  rintro e w4 ⟨am, cm, rfl, om, hm, f4⟩
  have k4 := f4.heap k3 (fun h => h)
  have d5 : w4.cell? ⟨w.heap.size, 3, none⟩ = some (.string s) := cell_blk k4 rfl
  have F4 : Fr nob w w4 := F3.trans f4
  have oc4 := own_fr oc3 f4 (fun _ _ h => h)
  have ol4 := own_fr ol f4 (fun _ _ h => h)
  clear d4 k3 f4 oc3 ol hm
  have hdl : (decL s n).length = n := decL_len s n
  have HD := hide hdl
  clear hdl
  go_wp2_with fail
  have hsame : Calls Tryz.prog 25 #[.slice (some ⟨w2.heap.size, 0, none⟩) n n, .slice am n cm] w4 fun e w' => e = .returned (.bool true) ∧ Fr nob w4 w' := by
    have := same_any w4 (some ⟨w2.heap.size, 0, none⟩) am n cm (decL s n) (by rw [HD.out]; omega) (own_view ol4 (by rw [List.take_length])) (own_view om (by rw [List.take_length]))
    rw [HD.out] at this; exact this
  refine hsame.mono ?_
  rintro e w5 ⟨rfl, f5⟩
  clear hsame
  have k5 := f5.heap k4 (fun h => h)
  have d6 : w5.cell? ⟨w.heap.size, 3, none⟩ = some (.string s) := cell_blk k5 rfl
  have F5 : Fr nob w w5 := F4.trans f5
  have oc5 := own_fr oc4 f5 (fun _ _ h => h)
  have ol5 := own_fr ol4 f5 (fun _ _ h => h)
  clear d5 k4 f5 oc4 ol4 om
  go_wp2_with fail
  refine (still_any _ w1.heap.size (s.size + 8) s (by omega) oc5).mono ?_
  rintro e w6 ⟨rfl, f6⟩
  have F6 : Fr nob w w6 := F5.trans f6
  have oc6 := own_fr oc5 f6 (fun _ _ h => h)
  have ol6 := own_fr ol5 f6 (fun _ _ h => h)
  have hI6 := hI.fr F6 (fun h => h) (fun _ _ h => h) (fun _ _ h => h)
  have hs6 := F6.size
  have hl6 : w2.heap.size < w6.heap.size := own_lt ol6 (by simp [bk, Value.ownBlock])
  clear d6 k5 f6 oc5 ol5
  go_wp2_with fail
  refine (keep_i w6 B wb ps hs F row hI6 (fun x hx => by have := HFL.out x hx; omega) (by omega) (by omega) _ n n _ ol6 (by omega) (fun x hx => by simp only [bk, Value.ownBlock, Option.some.injEq] at hx; exact ⟨by omega, fun h => by have := HFL.out x h; omega⟩)).mono ?_
  rintro e w7 ⟨rfl, hs1, row1, hI7, hl7, hh7, hI7', f7, f7''⟩
  have f7' : Ft B w.heap.size _ _ := f7'' w.heap.size (fun x hx => by simp only [bk, Value.ownBlock, Option.some.injEq] at hx; omega)
  have oc7 := own_ks (oc6.alloc _) hI7' hh7 f7 (by decide) (by decide) (by decide) (fun x hx hs => own_apart oc6 ol6 (by decide) x hx (sls_i hs))
  have F7 : Ft B w.heap.size w w7 := (Ft.ofNob F6).trans f7' (Nat.le_refl _)
  have hs7 := f7'.size
  have hlen1 : hs1.length ≤ 9900000000004 := by omega
  clear hI6 f7 f7' f7'' hh7 hI7' oc6 ol6
  go_wp2_with fail
  refine (keep_b w7 B wb ps hs1 _ row1 hI7 (fun x hx => hx.2) (by omega) (by omega) _ (s.size + 8) (s.size + 8) _ oc7 (by omega) (fun x hx => by
    simp only [bk, Value.ownBlock, Option.some.injEq] at hx
    refine ⟨by omega, fun hx' => ?_⟩
    rcases hx'.1 with h | h | h
    · first | (have := HFL.out _ h; omega) | (have := h.2; have := HFL.out _ h.1; omega) | omega
    · omega
    · simp only [bk, Value.ownBlock, Option.some.injEq] at h; omega)).mono ?_
  rintro e w8 ⟨rfl, hs2, row2, hI8, hl8, hh8, hI8', f8, f8''⟩
  have f8' : Ft B w.heap.size _ _ := f8'' w.heap.size (fun x hx => by simp only [bk, Value.ownBlock, Option.some.injEq] at hx; omega)
  have hA8 : At w8 B wb ps hs2 (grow F w w8) := ⟨⟨row2, hI8.mono (fun x hx h => ⟨h.1.elim (fun h => h.1.elim .inl (fun h => .inr (h.elim (fun h => by omega) (fun h => by simp only [bk, Value.ownBlock, Option.some.injEq] at h; omega)))) (fun h => .inr (h.elim (fun h => by omega) (fun h => by simp only [bk, Value.ownBlock, Option.some.injEq] at h; omega))), hx⟩) (fun _ _ _ _ _ h => h)⟩, fun x hx => hx.2, by have := f8'.size; omega⟩
  have F8 : Ft B w.heap.size w w8 := F7.trans f8' (Nat.le_refl _)
  have hl9 : hs2.length = hs.length + 8 := by omega
  have HL := hide hl9
  clear hI7 hI8 hI8' hh8 f8 f8' f8'' oc7 hl8 hl7 hl9
  go_wp2
  go_ret
  exact ⟨rfl, hs2, hA8, HL.out, F8⟩
#print axioms plain_decode_ok
end Go.Proofs.YtjgcfffepkmojaaGreat

namespace Go.Proofs.YtjgcfffepkmojaaGreat
open Go.RowKit
set_option linter.unusedVariables false

theorem view_frB {S : Nat → Prop} {w w' : World} {ao : Option Addr} {xs : List Value} (h : View w ao xs) (f : Fr S w w') (hb : xs ≠ [] → ∀ b off, ao = some ⟨b, off, none⟩ → ¬ S b) : View w' ao xs := by
  by_cases hx : xs = []
  · exact .inl hx
  · exact h.fr f (hb hx)
theorem flat_ne {l : List Ins} (h : flat l ≠ []) : l ≠ [] := fun e => h (by rw [e]; rfl)

set_option maxRecDepth 100000 in
set_option maxHeartbeats 4000000 in
theorem plain_decode_bad (w : World) (B wb : Nat) (ps : Value) (hs : List Nat) (F : Nat → Prop) (hA : At w B wb ps hs F) (hlen : hs.length ≤ 9900000000000) (N q0 q2 q3 : Int) (a1 a2 : Option Addr) (n1 c1 n2 c2 : Nat)
    (ao : Option Addr) (cap : Nat) (l : List Ins) (hv : View w ao (flat l)) (hz : ao = none → l.length = 0) (hl : l.length ≤ 17592186043904) (s : ByteArray) (hsz : s.size ≤ 140737488351232) (hbad : s.size % 8 ≠ 0 ∨ s.size = 0 ∨ 32768 < s.size) :
    Calls Tryz.prog 13 #[.pointer (some ⟨wb, 0, none⟩), opV 1 N ao l.length cap s q0 a1 n1 c1 q2 q3 a2 n2 c2] w fun e w' => e = .returned (.bool true) ∧ ∃ hs', At w' B wb ps hs' (grow F w w') ∧ hs'.length = hs.length + 8 ∧ Ft B w.heap.size w w' := by
  have HN := hide hbad
  clear hbad
  obtain ⟨row, hI⟩ := hA.inv
  have hB := hA.le
  have HFL := hide hA.lt
  have HZ := hide hz
  clear hz
  go_enter Tryz.func13, Tryz.ntmps13
  go_wp2_with fail
  have f0 : Fr nob w (w.alloc (.cells #[.int .i64 1, .int .i64 N, .slice ao l.length cap, .string s, .int .u32 q0, .slice a1 n1 c1, .int .u32 q2, .int .u32 q3, .slice a2 n2 c2] 41)) := (Fr.refl _ w).alloc _
  have k0 : (w.alloc (.cells #[.int .i64 1, .int .i64 N, .slice ao l.length cap, .string s, .int .u32 q0, .slice a1 n1 c1, .int .u32 q2, .int .u32 q3, .slice a2 n2 c2] 41)).heap[w.heap.size]? = some (.cells #[.int .i64 1, .int .i64 N, .slice ao l.length cap, .string s, .int .u32 q0, .slice a1 n1 c1, .int .u32 q2, .int .u32 q3, .slice a2 n2 c2] 41 (0, 0)) := heap_alloc_new w _
  refine (program_any _ ao cap l (hv.fr0 f0) HZ.out (by omega)).mono ?_
  rintro e w1 ⟨rfl, ob, f1⟩
  have k1 := f1.heap k0 (fun h => h)
  have F1 : Fr nob w w1 := f0.trans f1
  have c0 : w1.cell? ⟨w.heap.size, 0, none⟩ = some (.int .i64 1) := cell_blk k1 rfl
  have c3 : w1.cell? ⟨w.heap.size, 3, none⟩ = some (.string s) := cell_blk k1 rfl
  clear f0 k0 f1 ob
  go_wp2_with fail
  refine (lent_any _ s (by omega)).mono ?_
  rintro e w2 ⟨rfl, oc, f2⟩
  have k2 := f2.heap k1 (fun h => h)
  have d3 : w2.cell? ⟨w.heap.size, 3, none⟩ = some (.string s) := cell_blk k2 rfl
  have F2 : Fr nob w w2 := F1.trans f2
  have hc2 : w.heap.size ≤ w1.heap.size := F1.size
  have hc3 : w.heap.size ≤ w2.heap.size := F2.size
  have hc23 : w1.heap.size < w2.heap.size := own_lt oc (by simp [bk, Value.ownBlock])
  clear c0 c3 k1 f2
  go_wp2_with fail
  refine (sDecode_bad _ _ s.size (s.size + 8) (by omega) HN.out).mono ?_
  rintro e w3 ⟨rfl, rfl⟩
  go_wp2_with fail
  refine (rDecode_bad _ s (by omega) HN.out).mono ?_
  rintro e w4 ⟨rfl, rfl⟩
  go_wp2_with fail
  have hsame : Calls Tryz.prog 25 #[.slice none 0 0, .slice none 0 0] w4 fun e w' => e = .returned (.bool true) ∧ Fr nob w4 w' :=
    same_any w4 none none 0 0 [] (by simp) (.inl rfl) (.inl rfl)
  refine hsame.mono ?_
  rintro e w5 ⟨rfl, f5⟩
  clear hsame
  have k5 := f5.heap k2 (fun h => h)
  have d6 : w5.cell? ⟨w.heap.size, 3, none⟩ = some (.string s) := cell_blk k5 rfl
  have F5 : Fr nob w w5 := F2.trans f5
  have oc5 := own_fr oc f5 (fun _ _ h => h)
  have hsz5 := f5.size
  clear d3 k2 f5 oc
  go_wp2_with fail
  refine (still_any _ w1.heap.size (s.size + 8) s (by omega) oc5).mono ?_
  rintro e w6 ⟨rfl, f6⟩
  have F6 : Fr nob w w6 := F5.trans f6
  have oc6 := own_fr oc5 f6 (fun _ _ h => h)
  have ol6 : Own w6 29 4 none 0 0 [] := World.ownsRow_nil _ _ _ _
  have hI6 := hI.fr F6 (fun h => h) (fun _ _ h => h) (fun _ _ h => h)
  have hs6 := F6.size
  have hsz6 := f6.size
  clear d6 k5 f6 oc5
  go_wp2_with fail
  refine (keep_i w6 B wb ps hs F row hI6 (fun x hx => by have := HFL.out x hx; omega) (by omega) (by omega) none 0 0 _ ol6 (by omega) (fun x hx => by simp [bk, Value.ownBlock] at hx)).mono ?_
  rintro e w7 ⟨rfl, hs1, row1, hI7, hl7, hh7, hI7', f7, f7''⟩
  have f7' : Ft B w.heap.size _ _ := f7'' w.heap.size (fun x hx => by simp [bk, Value.ownBlock] at hx)
  have oc7 := own_ks (oc6.alloc _) hI7' hh7 f7 (by decide) (by decide) (by decide) (fun x hx hs => own_apart oc6 ol6 (by decide) x hx (sls_i hs))
  have F7 : Ft B w.heap.size w w7 := (Ft.ofNob F6).trans f7' (Nat.le_refl _)
  have hs7 := f7'.size
  have hlen1 : hs1.length ≤ 9900000000004 := by omega
  clear hI6 f7 f7' f7'' hh7 hI7' oc6 ol6
  go_wp2_with fail
  refine (keep_b w7 B wb ps hs1 _ row1 hI7 (fun x hx => hx.2) (by omega) (by omega) _ (s.size + 8) (s.size + 8) _ oc7 (by omega) (fun x hx => by
    simp only [bk, Value.ownBlock, Option.some.injEq] at hx
    refine ⟨by omega, fun hx' => ?_⟩
    rcases hx'.1 with h | h | h
    · first | (have := HFL.out _ h; omega) | (have := h.2; have := HFL.out _ h.1; omega) | omega
    · omega
    · simp [bk, Value.ownBlock] at h)).mono ?_
  rintro e w8 ⟨rfl, hs2, row2, hI8, hl8, hh8, hI8', f8, f8''⟩
  have f8' : Ft B w.heap.size _ _ := f8'' w.heap.size (fun x hx => by simp only [bk, Value.ownBlock, Option.some.injEq] at hx; omega)
  have hA8 : At w8 B wb ps hs2 (grow F w w8) := ⟨⟨row2, hI8.mono (fun x hx h => ⟨h.1.elim (fun h => h.1.elim .inl (fun h => .inr (h.elim (fun h => by omega) (fun h => by simp [bk, Value.ownBlock] at h)))) (fun h => .inr (h.elim (fun h => by omega) (fun h => by simp only [bk, Value.ownBlock, Option.some.injEq] at h; omega))), hx⟩) (fun _ _ _ _ _ h => h)⟩, fun x hx => hx.2, by have := f8'.size; omega⟩
  have F8 : Ft B w.heap.size w w8 := F7.trans f8' (Nat.le_refl _)
  have hl9 : hs2.length = hs.length + 8 := by omega
  have HL := hide hl9
  clear hI7 hI8 hI8' hh8 f8 f8' f8'' oc7 hl8 hl7 hl9
  go_wp2
  go_ret
  exact ⟨rfl, hs2, hA8, HL.out, F8⟩

set_option maxRecDepth 100000 in
set_option maxHeartbeats 4000000 in
theorem plain_encode (w : World) (B wb : Nat) (ps : Value) (hs : List Nat) (F : Nat → Prop) (hA : At w B wb ps hs F) (hlen : hs.length ≤ 9900000000000) (N q0 q2 q3 : Int) (a1 a2 : Option Addr) (n1 c1 n2 c2 : Nat)
    (ao : Option Addr) (cap : Nat) (l : List Ins) (hv : View w ao (flat l)) (hvB : l ≠ [] → ∀ b off, ao = some ⟨b, off, none⟩ → b < B) (hz : ao = none → l.length = 0) (hl : l.length ≤ 17592186043904) (hok : ∀ x ∈ l, x.ok) (s : ByteArray) :
    Calls Tryz.prog 13 #[.pointer (some ⟨wb, 0, none⟩), opV 2 N ao l.length cap s q0 a1 n1 c1 q2 q3 a2 n2 c2] w fun e w' => e = .returned (.bool true) ∧ ∃ hs', At w' B wb ps hs' (grow F w w') ∧ hs'.length = hs.length + 8 ∧ Ft B w.heap.size w w' := by
  obtain ⟨row, hI⟩ := hA.inv
  have hB := hA.le
  have HFL := hide hA.lt
  have HZ := hide hz
  clear hz
  have HOK := hide hok
  have HVB := hide hvB
  clear hok hvB
  go_enter Tryz.func13, Tryz.ntmps13
  go_wp2_with fail
  have f0 : Fr nob w (w.alloc (.cells #[.int .i64 2, .int .i64 N, .slice ao l.length cap, .string s, .int .u32 q0, .slice a1 n1 c1, .int .u32 q2, .int .u32 q3, .slice a2 n2 c2] 41)) := (Fr.refl _ w).alloc _
  have k0 : (w.alloc (.cells #[.int .i64 2, .int .i64 N, .slice ao l.length cap, .string s, .int .u32 q0, .slice a1 n1 c1, .int .u32 q2, .int .u32 q3, .slice a2 n2 c2] 41)).heap[w.heap.size]? = some (.cells #[.int .i64 2, .int .i64 N, .slice ao l.length cap, .string s, .int .u32 q0, .slice a1 n1 c1, .int .u32 q2, .int .u32 q3, .slice a2 n2 c2] 41 (0, 0)) := heap_alloc_new w _
  refine (program_any _ ao cap l (hv.fr0 f0) HZ.out (by omega)).mono ?_
  rintro e w1 ⟨rfl, ob, f1⟩
  have k1 := f1.heap k0 (fun h => h)
  have F1 : Fr nob w w1 := f0.trans f1
  have c0 : w1.cell? ⟨w.heap.size, 0, none⟩ = some (.int .i64 2) := cell_blk k1 rfl
  have c2' : w1.cell? ⟨w.heap.size, 2, none⟩ = some (.slice ao l.length cap) := cell_blk k1 rfl
  clear f0 k0 f1
  go_wp2_with fail
  rw [World.size_alloc] at ob
  have hvb : View w1 (some ⟨w.heap.size + 1, 0, none⟩) (flat l) := own_view ob (by rw [flat_append, List.take_left'  rfl])
  refine (sEncode_any _ _ (l.length + 8) l hl hvb HOK.out).mono ?_
  rintro e w2 ⟨g, c, rfl, oc, hg, f2⟩
  have k2 := f2.heap k1 (fun h => h)
  have F2 : Fr nob w w2 := F1.trans f2
  have hs1 := F1.size
  have ob2 := own_fr ob f2 (fun _ _ h => h)
  have hob2 : w.heap.size + 1 < w1.heap.size := own_lt ob (by simp [bk, Value.ownBlock])
  have hv2 := hv.fr0 F2
  have d2 : w2.cell? ⟨w.heap.size, 2, none⟩ = some (.slice ao l.length cap) := cell_blk k2 rfl
  have hcv : ∀ w', Own w' 5 1 (some ⟨g, 0, none⟩) (l.length * 8) c (u8s (enc l)) → (convert 32 9 (.slice (some ⟨g, 0, none⟩) (l.length * 8) c)).run Tryz.prog w' = .ok (.string (toBA (enc l))) w' := fun w' h => conv_own w' _ _ _ _ h
  clear c0 c2' k1 f2 ob hvb
  go_wp2_with fail
  go_region_held3 (fun w' => Own w' 5 1 (some ⟨g, 0, none⟩) (l.length * 8) c (u8s (enc l)) ∧ w'.cell? ⟨w.heap.size, 2, none⟩ = some (.slice ao l.length cap)) (first | exact ⟨oc, d2⟩ | exact ⟨oc3, d3⟩)
    ((go_at_call 10; refine (rEncode_any _ ao cap l hl (by exact hv2.fr0 ((Fr.refl nob w2).like rfl rfl rfl rfl)) HOK.out).mono ?_; rintro e w3 ⟨rfl, f3⟩; have f3' : Fr nob w2 w3 := ⟨f3.os, f3.tape, f3.output, f3.size, f3.block⟩; have oc3 := own_fr oc f3' (fun _ _ h => h); have k3 := f3'.heap k2 (fun h => h); have d3 : w3.cell? ⟨w.heap.size, 2, none⟩ = some (.slice ao l.length cap) := cell_blk k3 rfl))
  have F3 : Fr nob w w3 := F2.trans f3'
  have ob3 := own_fr ob2 f3' (fun _ _ h => h)
  have hI3 := hI.fr F3 (fun h => h) (fun _ _ h => h) (fun _ _ h => h)
  have hs3 := F3.size
  have hs32 := f3'.size
  have hg3 : g < w3.heap.size := own_lt oc3 (by simp [bk, Value.ownBlock])
  have hs21 : w1.heap.size ≤ w2.heap.size := by
    have := own_lt oc (k := g) (by simp [bk, Value.ownBlock]); omega
  clear hcv oc d2 d3 k2 ob2 hv2 f3 f3'
  go_wp2_with fail
  refine (keep_b w3 B wb ps hs F row hI3 (fun x hx => by have := HFL.out x hx; omega) (by omega) (by omega) _ (l.length * 8) c _ oc3 (by omega) (fun x hx => by simp only [bk, Value.ownBlock, Option.some.injEq] at hx; exact ⟨by omega, fun h => by have := HFL.out x h; omega⟩)).mono ?_
  rintro e w4 ⟨rfl, hs1', row1, hI4, hl4, hh4, hI4', f4, f4''⟩
  have f4' : Ft B w.heap.size _ _ := f4'' w.heap.size (fun x hx => by simp only [bk, Value.ownBlock, Option.some.injEq] at hx; omega)
  have ob4 := own_ks (ob3.alloc _) hI4' hh4 f4 (by decide) (by decide) (by decide) (fun x hx hs => own_apart ob3 oc3 (by decide) x hx (sls_b hs))
  have k4 := blk_ks (blk_alloc k3) hI4' hh4 f4 (by decide) (by decide) (by decide) (by decide) (by decide) (by decide) (by decide)
  have F4 : Ft B w.heap.size w w4 := (Ft.ofNob F3).trans f4' (Nat.le_refl _)
  have hv4 : View w4 ao (flat l) := view_frB hv F4.up (fun hne b off e => by have := HVB.out (flat_ne hne) b off e; simp only [up]; omega)
  have hs4 := f4'.size
  have d4 : w4.cell? ⟨w.heap.size, 0, none⟩ = some (.int .i64 2) := cell_blk k4 rfl
  have d5 : w4.cell? ⟨w.heap.size, 2, none⟩ = some (.slice ao l.length cap) := cell_blk k4 rfl
  have hlen1 : hs1'.length ≤ 9900000000004 := by omega
  clear hI3 f4 f4' f4'' hh4 hI4' oc3 ob3 k3
  go_wp2_with fail
  refine (kept_any _ (w.heap.size + 1) (l.length + 8) ao cap l (by omega) ob4 hv4).mono ?_
  rintro e w5 ⟨rfl, f5⟩
  have ob5 := own_fr ob4 f5 (fun _ _ h => h)
  have hI5 := hI4.fr f5 (fun h => h) (fun _ _ h => h) (fun _ _ h => h)
  have hs5 := f5.size
  have F5 : Ft B w.heap.size w w5 := F4.trans (Ft.ofNob (S0 := w.heap.size) f5) (Nat.le_refl _)
  clear hI4 k4 d4 d5 ob4 f5 hv4
  go_wp2_with fail
  refine (keep_i w5 B wb ps hs1' _ row1 hI5 (fun x hx => by have := hx.2; omega) (by omega) (by omega) _ (l.length + 8) (l.length + 8) _ ob5 (by omega) (fun x hx => by
    simp only [bk, Value.ownBlock, Option.some.injEq] at hx
    refine ⟨by omega, fun hx' => ?_⟩
    rcases hx'.1 with h | h | h
    · first | (have := HFL.out _ h; omega) | (have := h.2; have := HFL.out _ h.1; omega) | omega
    · omega
    · simp only [bk, Value.ownBlock, Option.some.injEq] at h; omega)).mono ?_
  rintro e w6 ⟨rfl, hs2, row2, hI6, hl6, hh6, hI6', f6, f6''⟩
  have f6' : Ft B w.heap.size _ _ := f6'' w.heap.size (fun x hx => by simp only [bk, Value.ownBlock, Option.some.injEq] at hx; omega)
  have hA6 : At w6 B wb ps hs2 (grow F w w6) := ⟨⟨row2, hI6.mono (fun x hx h => ⟨h.1.elim (fun h => h.1.elim .inl (fun h => .inr (h.elim (fun h => by omega) (fun h => by simp only [bk, Value.ownBlock, Option.some.injEq] at h; omega)))) (fun h => .inr (h.elim (fun h => by omega) (fun h => by simp only [bk, Value.ownBlock, Option.some.injEq] at h; omega))), hx⟩) (fun _ _ _ _ _ h => h)⟩, fun x hx => hx.2, by have := f6'.size; omega⟩
  have F6 : Ft B w.heap.size w w6 := F5.trans f6' (Nat.le_refl _)
  have hl9 : hs2.length = hs.length + 8 := by omega
  have HL := hide hl9
  clear hI5 hI6 hI6' hh6 f6 f6' f6'' ob5 hl6 hl4 hl9
  go_wp2
  go_ret
  exact ⟨rfl, hs2, hA6, HL.out, F6⟩
#print axioms plain_encode
end Go.Proofs.YtjgcfffepkmojaaGreat
