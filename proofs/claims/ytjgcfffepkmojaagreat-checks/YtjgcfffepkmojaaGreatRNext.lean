import Derived.Test.YtjgcfffepkmojaaGreatKinds
import Derived.Test.YtjgcfffepkmojaaGreatGood
import Derived.Test.YtjgcfffepkmojaaGreatStill
namespace Go.Proofs.YtjgcfffepkmojaaGreat
open Go.RowKit
set_option linter.unusedVariables false

/-- Where the reference goes on. -/
def nxS (s : ByteArray) (t : Bool) (n : Int) (x : Ins) : List Int :=
  if s.toList = [114, 101, 116, 107] ∨ s.toList = [114, 101, 116, 97] then [] else if s.toList = [106, 117, 109, 112] then [n + 1 + x.k] else if t = true then [n + 1 + x.jt, n + 1 + x.jf] else [n + 1]
def ivs (l : List Int) : List Value := l.map (fun v => .int .i64 v)
theorem view_new (w : World) (xs : List Value) (t : TypeId) : View (w.alloc (.cells xs.toArray t)) (some ⟨w.heap.size, 0, none⟩) xs := by
  refine .inr ⟨_, _, rfl, fun j v hj => ?_⟩
  rw [Nat.zero_add]
  exact cell_blk (heap_alloc_new w _) (by simpa using hj)
theorem view_new2 (w : World) (o : Obj) (xs : List Value) (t : TypeId) : View ((w.alloc o).alloc (.cells xs.toArray t)) (some ⟨w.heap.size + 1, 0, none⟩) xs := by
  have := view_new (w.alloc o) xs t
  rw [show (w.alloc o).heap.size = w.heap.size + 1 by simp] at this
  exact this
set_option maxRecDepth 100000 in
set_option maxHeartbeats 4000000 in
theorem next_core (w : World) (b off cap n : Nat) (i : Nat) (hi : i < n) (hn : n ≤ 4096) (x : Ins) (hx : x.ok) (s : ByteArray) (y t : Bool)
    (v0 : w.cell? ⟨b, off + i * 4, none⟩ = some (.int .u16 x.code)) (v1 : w.cell? ⟨b, off + i * 4 + 1, none⟩ = some (.int .u8 x.jt)) (v2 : w.cell? ⟨b, off + i * 4 + 2, none⟩ = some (.int .u8 x.jf)) (v3 : w.cell? ⟨b, off + i * 4 + 3, none⟩ = some (.int .u32 x.k))
    (hs : Hid (∀ w, Calls Tryz.prog 52 #[.int .u16 x.code] w fun e w' => e = .returned (.tuple #[.string s, .bool y]) ∧ w' = w)) (ht : Hid (∀ w, Calls Tryz.prog 64 #[.string s] w fun e w' => e = .returned (.bool t) ∧ w' = w)) :
    Calls Tryz.prog 65 #[.slice (some ⟨b, off, none⟩) n cap, .int .i64 i] w fun e w' => ∃ na nc, e = .returned (.slice na (nxS s t i x).length nc) ∧ View w' na (ivs (nxS s t i x)) ∧ (∀ b off, na = some ⟨b, off, none⟩ → w.heap.size ≤ b) ∧ Fr nob w w' := by
  obtain ⟨⟨p1, p2⟩, ⟨p3, p4⟩, ⟨p5, p6⟩, ⟨p7, p8⟩⟩ := hx
  have hbl : b < w.heap.size := World.block_lt_of_cell? w _ v0
  have hw1 : IntKind.i64.wrap ((i : Int) + 1 + x.k) = (i : Int) + 1 + x.k := by rw [IntKind.wrap_i64]; omega
  have hw2 : IntKind.i64.wrap ((i : Int) + 1 + x.jt) = (i : Int) + 1 + x.jt := by rw [IntKind.wrap_i64]; omega
  have hw3 : IntKind.i64.wrap ((i : Int) + 1 + x.jf) = (i : Int) + 1 + x.jf := by rw [IntKind.wrap_i64]; omega
  have hw4 : IntKind.i64.wrap x.k = x.k := by rw [IntKind.wrap_i64]; omega
  have hw5 : IntKind.i64.wrap x.jt = x.jt := by rw [IntKind.wrap_i64]; omega
  have hw6 : IntKind.i64.wrap x.jf = x.jf := by rw [IntKind.wrap_i64]; omega
  have F1 := fun o => (Fr.refl nob w).alloc o
  go_enter Tryz.func65, Tryz.ntmps65
  go_wp2_with fail
  refine (hs.out _).mono ?_
  rintro e w1 ⟨rfl, rfl⟩
  go_wp2_with fail
  refine (ht.out _).mono ?_
  rintro e w1 ⟨rfl, rfl⟩
  clear hs ht
  go_wp2
  all_goals go_ret
  all_goals clear v0 v1 v2 v3 hw1 hw2 hw3 hw4 hw5 hw6 p1 p2 p3 p4 p5 p6 p7 p8
  all_goals first
    | (have hl : nxS s t i x = [] := by (unfold nxS; simp_all; done)
       rw [hl]; exact ⟨none, 0, rfl, .inl rfl, fun _ _ e => (by cases e), F1 _⟩)
    | (have hl : nxS s t i x = [(i : Int) + 1 + x.k] := by (unfold nxS; simp_all; done)
       rw [hl]; exact ⟨_, _, rfl, view_new2 _ _ [.int .i64 ((i : Int) + 1 + x.k)] _, fun _ _ e => (by cases e; omega), (F1 _).alloc _⟩)
    | (have hl : nxS s t i x = [(i : Int) + 1 + x.jt, (i : Int) + 1 + x.jf] := by (unfold nxS; simp_all; done)
       rw [hl]; exact ⟨_, _, rfl, view_new2 _ _ [.int .i64 ((i : Int) + 1 + x.jt), .int .i64 ((i : Int) + 1 + x.jf)] _, fun _ _ e => (by cases e; omega), (F1 _).alloc _⟩)
    | (have hl : nxS s t i x = [(i : Int) + 1] := by (unfold nxS; simp_all; done)
       rw [hl]; exact ⟨_, _, rfl, view_new2 _ _ [.int .i64 ((i : Int) + 1)] _, fun _ _ e => (by cases e; omega), (F1 _).alloc _⟩)
/-- By the name: where it goes on. -/
theorem nx_cls (s : ByteArray) (y : Bool) (n : Nat) (x : Ins) (hk : cls s.toList y = knd x.code) (hx : x.ok) :
    nxS s (tstS s) n x = (if knd x.code = 9 then [] else if knd x.code = 2 then [n + 1 + x.k.toNat] else if knd x.code = 3 then [n + 1 + x.jt.toNat, n + 1 + x.jf.toNat] else [n + 1]).map (fun t : Nat => (t : Int)) := by
  have e1 : ((n + 1 + x.k.toNat : Nat) : Int) = (n : Int) + 1 + x.k := by have := hx.2.2.2.1; omega
  have e2 : ((n + 1 + x.jt.toNat : Nat) : Int) = (n : Int) + 1 + x.jt := by have := hx.2.1.1; omega
  have e3 : ((n + 1 + x.jf.toNat : Nat) : Int) = (n : Int) + 1 + x.jf := by have := hx.2.2.1.1; omega
  have e4 : ((n + 1 : Nat) : Int) = (n : Int) + 1 := by omega
  rw [← hk]
  unfold nxS cls tstS
  generalize s.toList = l
  by_cases h0 : l = []
  · subst h0; simp
  by_cases h1 : l = [106, 117, 109, 112]
  · subst h1; simp; omega
  by_cases h2 : l = [105, 102, 61]
  · subst h2; simp; omega
  by_cases h3 : l = [105, 102, 62]
  · subst h3; simp; omega
  by_cases h4 : l = [105, 102, 62, 61]
  · subst h4; simp; omega
  by_cases h5 : l = [105, 102, 38]
  · subst h5; simp; omega
  by_cases h14 : l = [114, 101, 116, 107]
  · subst h14; simp
  by_cases h15 : l = [114, 101, 116, 97]
  · subst h15; simp
  simp only [h0, h1, h2, h3, h4, h5, h14, h15, or_self, if_false]
  by_cases h6 : l = [97, 61, 97, 116]
  · subst h6; simp
  simp only [h6, if_false]
  by_cases h7 : l = [97, 61, 99, 101, 108, 108] ∨ l = [120, 61, 99, 101, 108, 108]
  · simp [h7, h2, h3, h4, h5]
  simp only [h7, if_false]
  by_cases h9 : l = [99, 101, 108, 108, 61, 97] ∨ l = [99, 101, 108, 108, 61, 120]
  · simp [h9, h2, h3, h4, h5]
  simp only [h9, if_false]
  by_cases h11 : (l = [47] ∨ l = [37]) ∧ y = false
  · simp [h11, h2, h3, h4, h5]
  simp only [h11, if_false]
  by_cases h13 : (l = [60, 60] ∨ l = [62, 62]) ∧ y = false
  · simp [h13, h2, h3, h4, h5]
  simp only [h13, if_false]
  simp [h2, h3, h4, h5]
theorem next_any (w : World) (ao : Option Addr) (cap : Nat) (l : List Ins) (hv : View w ao (flat l)) (h : Good l) (i : Nat) (hi : i < l.length) :
    Calls Tryz.prog 65 #[.slice ao l.length cap, .int .i64 i] w fun e w' => ∃ na nc, e = .returned (.slice na (sc l i).length nc) ∧ View w' na (ivs ((sc l i).map (fun t : Nat => (t : Int)))) ∧ (∀ b off, na = some ⟨b, off, none⟩ → w.heap.size ≤ b) ∧ Fr nob w w' := by
  have hpos := h.pos
  have hne : flat l ≠ [] := by intro e; have := flat_len l; rw [e] at this; simp at this; omega
  obtain ⟨b, off, rfl, hseg⟩ := hv.some hne
  obtain ⟨v0, v1, v2, v3⟩ := hseg.ins i hi
  rw [← gI_eq l i hi] at v0 v1 v2 v3
  have hok := h.gok hi
  have := next_core w b off cap l.length i hi h.le (gI l i) hok (nameS (gI l i).code) (byxS (gI l i).code) (tstS (nameS (gI l i).code)) v0 v1 v2 v3 (fun w => name_any w _) (fun w => tests_any w _)
  rw [nx_cls _ _ i _ (cls_knd _ hok.1.1 hok.1.2) hok] at this
  have e : (if knd (gI l i).code = 9 then [] else if knd (gI l i).code = 2 then [i + 1 + (gI l i).k.toNat] else if knd (gI l i).code = 3 then [i + 1 + (gI l i).jt.toNat, i + 1 + (gI l i).jf.toNat] else [i + 1]) = sc l i := rfl
  rw [e] at this
  refine this.mono ?_
  rintro e w' ⟨na, nc, h1, h2, h3, h4⟩
  exact ⟨na, nc, by rw [h1, List.length_map], h2, h3, h4⟩
#print axioms next_any
end Go.Proofs.YtjgcfffepkmojaaGreat
