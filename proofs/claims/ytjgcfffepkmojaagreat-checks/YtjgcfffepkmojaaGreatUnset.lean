import Derived.Test.YtjgcfffepkmojaaGreatGood
import Derived.Test.YtjgcfffepkmojaaGreatStill
import Derived.Deep.DeepMust
import Derived.Deep.RegionHeld3
namespace Go.Proofs.YtjgcfffepkmojaaGreat
open Go.RowKit
set_option linter.unusedVariables false

theorem info_known : (Tryz.prog.info? 152).map (fun i => (i.zero, i.size, i.bytes)) = some (some (.agg #[.bool false, .int .u16 0]), 2, 4) := by kernel_rfl

theorem join_form (o : Option Nat) (S : Nat) (hR : ∀ R, o = some R → R < 65536) (hS : S < 65536) : ∃ (rb : Bool) (R : Int) (T : Nat), kcs o = [.bool rb, .int .u16 R] ∧ Flow.jn o S = some T ∧
    ∀ w, Calls Tryz.prog 81 #[.agg #[.bool rb, .int .u16 R], .agg #[.bool true, .int .u16 S]] w fun e w' => e = .returned (.agg #[.bool true, .int .u16 (T : Int)]) ∧ Fr nob w w' := by
  cases o with
  | none => exact ⟨false, 0, S, rfl, rfl, fun w => join_none w S⟩
  | some R => exact ⟨true, R, R &&& S, rfl, rfl, fun w => join_some w R S (hR R rfl) hS⟩

/-- The facts behind one more way. -/
theorem own_fact {w : World} {g n t T : Nat} {st : Nat → Option Nat} (o : Own w 152 2 (some ⟨g, 0, none⟩) n n (kr st n)) (ht : t < n) :
    Own ((w.setCell ⟨g, t * 2, none⟩ (.bool true)).setCell ⟨g, t * 2 + 1, none⟩ (.int .u16 (T : Int))) 152 2 (some ⟨g, 0, none⟩) n n (kr (fun y => if y = t then some T else st y) n) := by
  have h1 := (o.stored (t * 2) (.bool true)).1
  have h2 := (World.ownsRow.stored h1 (t * 2 + 1) (.int .u16 (T : Int))).1
  rw [kr_set st n t (some T) _ _ ht rfl] at h2
  exact h2

theorem own_two {w : World} {g n t : Nat} {st : Nat → Option Nat} (o : Own w 152 2 (some ⟨g, 0, none⟩) n n (kr st n)) (ht : t < n) : ∃ a b, w.cell? ⟨g, t * 2, none⟩ = some a ∧ w.cell? ⟨g, t * 2 + 1, none⟩ = some b :=
  ⟨_, _, own_cell o _ (by rw [kr_len]; omega), own_cell o _ (by rw [kr_len]; omega)⟩
theorem pst_next {l : List Ins} {i S t T : Nat} (hs : pst l i i = some S) (hsc : sc l i = [t]) (hj : Flow.jn (pst l i t) (ou l i S) = some T) : pst l (i + 1) = fun y => if y = t then some T else pst l i y := by
  have h1 : pst l (i + 1) = Flow.feed (pst l i) (ou l i S) (sc l i) := Flow.stp_some hs
  rw [h1, hsc, Flow.feed, Flow.feed, hj]
theorem bad_no {l : List Ins} {i : Nat} (hk : knd (gI l i).code ≠ 5) : bad l i = false := by
  unfold bad
  split
  · rfl
  · simp [hk]
theorem lt_succ_or {p : Nat → Prop} {i : Nat} (h : ∀ j, j < i → p j) (hi : p i) : ∀ j, j < i + 1 → p j := fun j hj => by
  rcases Nat.lt_or_ge j i with e | e
  · exact h j e
  · have : j = i := by omega
    rw [this]; exact hi
theorem own_fact' {w : World} {g n t : Nat} {st : Nat → Option Nat} {rb : Bool} {R : Int} (o : Own w 152 2 (some ⟨g, 0, none⟩) n n (kr st n)) (ht : t < n) (hk : kcs (st t) = [.bool rb, .int .u16 R]) :
    w.cell? ⟨g, t * 2, none⟩ = some (.bool rb) ∧ w.cell? ⟨g, t * 2 + 1, none⟩ = some (.int .u16 R) :=
  ⟨own_get o ((kr_get st n t 0 ht (by decide)).trans (by rw [hk]; rfl)), own_get o ((kr_get st n t 1 ht (by decide)).trans (by rw [hk]; rfl))⟩

theorem after_join {w wr w3 : World} {o1 : Obj} {g n t : Nat} {st : Nat → Option Nat} {rb : Bool} {R S : Int} (o : Own wr 152 2 (some ⟨g, 0, none⟩) n n (kr st n)) (f : Fr nob w wr)
    (f3 : Fr nob ((wr.alloc o1).alloc (.cells #[.bool true, .int .u16 S] 152)).drew w3) (ht : t < n) (u0 : wr.cell? ⟨g, t * 2, none⟩ = some (.bool rb)) (u1 : wr.cell? ⟨g, t * 2 + 1, none⟩ = some (.int .u16 R)) :
    w3.cell? ⟨g, t * 2, none⟩ = some (.bool rb) ∧ w3.cell? ⟨g, t * 2 + 1, none⟩ = some (.int .u16 R) ∧ w3.cell? ⟨wr.heap.size + 1, 0, none⟩ = some (.bool true) ∧ w3.cell? ⟨wr.heap.size + 1, 1, none⟩ = some (.int .u16 S)
      ∧ (∀ z, w3.frozen? ⟨g, z, none⟩ = false) ∧ Own w3 152 2 (some ⟨g, 0, none⟩) n n (kr st n) ∧ Fr nob w w3 := by
  have G3 : Fr nob wr w3 := Fr.trans ((((Fr.refl nob wr).alloc _).alloc _).drew) f3
  have o3 := own_fr o G3 (fun _ _ h => h)
  have y0 : w3.cell? ⟨g, t * 2, none⟩ = some (.bool rb) := by rw [own_cell o _ (by rw [kr_len]; omega)] at u0; rw [own_cell o3 _ (by rw [kr_len]; omega)]; exact u0
  have y1 : w3.cell? ⟨g, t * 2 + 1, none⟩ = some (.int .u16 R) := by rw [own_cell o _ (by rw [kr_len]; omega)] at u1; rw [own_cell o3 _ (by rw [kr_len]; omega)]; exact u1
  have k2 : ((wr.alloc o1).alloc (.cells #[.bool true, .int .u16 S] 152)).heap[wr.heap.size + 1]? = some (.cells #[.bool true, .int .u16 S] 152) := by
    have := heap_alloc_new (wr.alloc o1) (.cells #[.bool true, .int .u16 S] 152)
    rw [show (wr.alloc o1).heap.size = wr.heap.size + 1 by simp] at this
    exact this
  have k3 := f3.heap k2 (fun h => h)
  exact ⟨y0, y1, cell_blk k3 rfl, cell_blk k3 rfl, fun z => o3.frozenAt z, o3, Fr.trans f G3⟩

theorem after_with {w wr w2 : World} {o1 : Obj} {g n : Nat} {st : Nat → Option Nat} {S : Int} (o : Own wr 152 2 (some ⟨g, 0, none⟩) n n (kr st n)) (f : Fr nob w wr)
    (f2 : Fr nob ((wr.alloc o1).alloc (.cells #[.bool true, .int .u16 S] 152)) w2) :
    Own w2 152 2 (some ⟨g, 0, none⟩) n n (kr st n) ∧ Fr nob w w2 ∧ w2.heap[wr.heap.size + 1]? = some (.cells #[.bool true, .int .u16 S] 152) := by
  have G2 : Fr nob wr w2 := Fr.trans (((Fr.refl nob wr).alloc _).alloc _) f2
  have k2 : ((wr.alloc o1).alloc (.cells #[.bool true, .int .u16 S] 152)).heap[wr.heap.size + 1]? = some (.cells #[.bool true, .int .u16 S] 152) := by
    have := heap_alloc_new (wr.alloc o1) (.cells #[.bool true, .int .u16 S] 152)
    rw [show (wr.alloc o1).heap.size = wr.heap.size + 1 by simp] at this
    exact this
  exact ⟨own_fr o G2 (fun _ _ h => h), Fr.trans f G2, f2.heap k2 (fun h => h)⟩
theorem own_kept {wr w3 : World} {g n t : Nat} {st : Nat → Option Nat} {rb : Bool} {R : Int} (o : Own wr 152 2 (some ⟨g, 0, none⟩) n n (kr st n)) (o3 : Own w3 152 2 (some ⟨g, 0, none⟩) n n (kr st n)) (ht : t < n)
    (u0 : wr.cell? ⟨g, t * 2, none⟩ = some (.bool rb)) (u1 : wr.cell? ⟨g, t * 2 + 1, none⟩ = some (.int .u16 R)) :
    w3.cell? ⟨g, t * 2, none⟩ = some (.bool rb) ∧ w3.cell? ⟨g, t * 2 + 1, none⟩ = some (.int .u16 R) := by
  rw [own_cell o _ (by rw [kr_len]; omega)] at u0 u1
  rw [own_cell o3 _ (by rw [kr_len]; omega), own_cell o3 _ (by rw [kr_len]; omega)]
  exact ⟨u0, u1⟩

theorem after_join6 {w w2 w3 : World} {B g n t : Nat} {st : Nat → Option Nat} {rb : Bool} {R : Int} {v0 v1 : Value} {z0 z1 : Nat} (o : Own w2 152 2 (some ⟨g, 0, none⟩) n n (kr st n)) (f : Fr nob w w2) (hB : w.heap.size ≤ B) (hg : g ≠ B)
    (f3 : Fr nob ((w2.setCell ⟨B, z0, none⟩ v0).setCell ⟨B, z1, none⟩ v1).drew w3) (ht : t < n) (u0 : w2.cell? ⟨g, t * 2, none⟩ = some (.bool rb)) (u1 : w2.cell? ⟨g, t * 2 + 1, none⟩ = some (.int .u16 R)) :
    w3.cell? ⟨g, t * 2, none⟩ = some (.bool rb) ∧ w3.cell? ⟨g, t * 2 + 1, none⟩ = some (.int .u16 R) ∧ (∀ z, w3.frozen? ⟨g, z, none⟩ = false) ∧ Own w3 152 2 (some ⟨g, 0, none⟩) n n (kr st n) ∧ Fr nob w w3 := by
  have G : Fr (fun k => k = B) w2 ((w2.setCell ⟨B, z0, none⟩ v0).setCell ⟨B, z1, none⟩ v1).drew := (((Fr.refl (fun k => k = B) w2).setCell (p := ⟨B, z0, none⟩) (fun _ => rfl) _).setCell (p := ⟨B, z1, none⟩) (fun _ => rfl) _).drew
  have oG := own_fr o G (fun k hk e => by simp only [bk, Value.ownBlock, Option.some.injEq] at hk; exact hg (hk.trans e))
  have o3 := own_fr oG f3 (fun _ _ h => h)
  have F : Fr nob w ((w2.setCell ⟨B, z0, none⟩ v0).setCell ⟨B, z1, none⟩ v1).drew := f.step G (fun k hk e => absurd hk (by rw [e]; omega))
  obtain ⟨y0, y1⟩ := own_kept o o3 ht u0 u1
  exact ⟨y0, y1, fun z => o3.frozenAt z, o3, Fr.trans F f3⟩

theorem after_join5 {w w2 w3 : World} {g n t : Nat} {st : Nat → Option Nat} {rb : Bool} {R : Int} (o : Own w2 152 2 (some ⟨g, 0, none⟩) n n (kr st n)) (f : Fr nob w w2)
    (f3 : Fr nob w2.drew w3) (ht : t < n) (u0 : w2.cell? ⟨g, t * 2, none⟩ = some (.bool rb)) (u1 : w2.cell? ⟨g, t * 2 + 1, none⟩ = some (.int .u16 R)) :
    w3.cell? ⟨g, t * 2, none⟩ = some (.bool rb) ∧ w3.cell? ⟨g, t * 2 + 1, none⟩ = some (.int .u16 R) ∧ (∀ z, w3.frozen? ⟨g, z, none⟩ = false) ∧ Own w3 152 2 (some ⟨g, 0, none⟩) n n (kr st n) ∧ Fr nob w w3 := by
  have o3 := own_fr o f3.undrew (fun _ _ h => h)
  obtain ⟨y0, y1⟩ := own_kept o o3 ht u0 u1
  exact ⟨y0, y1, fun z => o3.frozenAt z, o3, Fr.trans f f3.undrew⟩

theorem after_join3 {w w2 w3 : World} {B g n t : Nat} {st : Nat → Option Nat} {ob : Obj} {rb : Bool} {R : Int} (o : Own w2 152 2 (some ⟨g, 0, none⟩) n n (kr st n)) (f : Fr nob w w2) (k : w2.heap[B]? = some ob)
    (f3 : Fr nob w2.drew w3) (ht : t < n) (u0 : w2.cell? ⟨g, t * 2, none⟩ = some (.bool rb)) (u1 : w2.cell? ⟨g, t * 2 + 1, none⟩ = some (.int .u16 R)) :
    w3.cell? ⟨g, t * 2, none⟩ = some (.bool rb) ∧ w3.cell? ⟨g, t * 2 + 1, none⟩ = some (.int .u16 R) ∧ (∀ z, w3.frozen? ⟨g, z, none⟩ = false) ∧ Own w3 152 2 (some ⟨g, 0, none⟩) n n (kr st n) ∧ Fr nob w w3 ∧ w3.heap[B]? = some ob := by
  obtain ⟨a, b, c, d, e⟩ := after_join5 o f f3 ht u0 u1
  exact ⟨a, b, c, d, e, f3.undrew.heap k (fun h => h)⟩
theorem heap_two {w : World} {g z0 z1 B : Nat} {v0 v1 : Value} {ob : Obj} (h : w.heap[B]? = some ob) (hg : g ≠ B) : ((w.setCell ⟨g, z0, none⟩ v0).setCell ⟨g, z1, none⟩ v1).heap[B]? = some ob := by
  rw [heap_setCell_other _ _ _ _ (fun e => hg e.symm), heap_setCell_other _ _ _ _ (fun e => hg e.symm)]; exact h
theorem here_heap (wr : World) (o1 o2 : Obj) : ((wr.alloc o1).alloc o2).heap[wr.heap.size + 1]? = some o2 := by
  have := heap_alloc_new (wr.alloc o1) o2
  rw [show (wr.alloc o1).heap.size = wr.heap.size + 1 by simp] at this
  exact this
theorem ix0 (a b : Int) (w : World) : (Instr.index 153 (Value.agg #[.int .u8 a, .int .u8 b]) (.int .i64 0)).run Tryz.prog w = .ok (.int .u8 a) w := by kernel_rfl
theorem ix1 (a b : Int) (w : World) : (Instr.index 153 (Value.agg #[.int .u8 a, .int .u8 b]) (.int .i64 1)).run Tryz.prog w = .ok (.int .u8 b) w := by kernel_rfl
def sel3 (a b c : Nat → Option Nat) : Nat → Nat → Option Nat
  | 0 => a
  | 1 => b
  | _ => c

set_option maxRecDepth 100000 in
set_option maxHeartbeats 8000000 in
theorem unset_any (w : World) (ao : Option Addr) (cap : Nat) (l : List Ins) (hv : View w ao (flat l)) (h : Good l) :
    Calls Tryz.prog 63 #[.slice ao l.length cap] w fun e w' => e = .returned (.tuple #[.int .i64 (uns l).1, .int .i64 (uns l).2]) ∧ Fr nob w w' := by
  have hpos := h.pos
  have hle := h.le
  obtain ⟨i0, hi, hz0, hz1, hz2⟩ := info_parts info_known
  go_enter Tryz.func63, Tryz.ntmps63
  go_wp2_with fail
  go_step3
  go_wp2_with (at_make; refine wpList_make_full _ rfl _ _ 150 rfl 0 152 i0 _ 2 Tryz.underlying150 hi hz0 hz1 _ _ _ _ l.length rfl rfl (by omega) (by omega) ?b1 ?b2 ?b3 ?_)
  case b1 => rw [hz2]; omega
  case b2 => unfold maxLen; omega
  case b3 => omega
  intro w1 o1 g1
  have f1 : Fr nob w w1 := (Fr.refl _ w).grown g1 (fun k _ h => by cases h)
  have o1' : Own w1 152 2 (some ⟨w.heap.size, 0, none⟩) l.length l.length (kr (fun _ => none) l.length) := by
    rw [kr_none]
    rw [← made_rep #[Value.bool false, Value.int .u16 0] l.length 2 rfl (by decide)]
    exact o1
  have o2 := own_fact (T := 0) o1' (t := 0) hpos
  have hlt1 : w.heap.size < w1.heap.size := own_lt o1' (by simp [bk, Value.ownBlock])
  have e0 : w1.cell? ⟨w.heap.size, 0, none⟩ = some (.bool false) := own_get o1' (by have := kr_get (fun _ => none) l.length 0 0 hpos (by decide); exact this.trans rfl)
  have e1 : w1.cell? ⟨w.heap.size, 1, none⟩ = some (.int .u16 0) := own_get o1' (by have := kr_get (fun _ => none) l.length 0 1 hpos (by decide); exact this.trans rfl)
  have z0 : ∀ z, w1.frozen? ⟨w.heap.size, z, none⟩ = false := fun z => o1'.frozenAt z
  have F1 : Fr nob w ((w1.setCell ⟨w.heap.size, 0, none⟩ (.bool true)).setCell ⟨w.heap.size, 1, none⟩ (.int .u16 0)) := (f1.setCell (p := ⟨w.heap.size, 0, none⟩) (fun h => absurd h (Nat.lt_irrefl _)) _).setCell (p := ⟨w.heap.size, 1, none⟩) (fun h => absurd h (Nat.lt_irrefl _)) _
  clear o1 g1 f1 o1' hi hz0 hz1 hz2 i0
  go_wp2_with fail
  go_step3
  go_wp2_with fail
  go_loopw [20] (fun y wr => ∃ i : Nat, i ≤ l.length ∧ y = .int .i64 i ∧ Own wr 152 2 (some ⟨w.heap.size, 0, none⟩) l.length l.length (kr (pst l i) l.length) ∧ (∀ j, j < i → bad l j = false) ∧ Fr nob w wr) (fun y _ => l.length - (intOf y).toNat)
  case atStart => exact ⟨0, Nat.zero_le _, rfl, o2, fun j hj => absurd hj (Nat.not_lt_zero _), F1⟩
  case round =>
    clear o2 F1 e0 e1 z0
    obtain ⟨i, hin, rfl, o, hb, f⟩ := hrel
    by_cases hlt : i < l.length
    · have hne : flat l ≠ [] := by intro e; have := flat_len l; rw [e] at this; simp at this; omega
      obtain ⟨b, off, rfl, hseg⟩ := (hv.fr0 f).some hne
      obtain ⟨v0, v1, v2, v3⟩ := hseg.ins i hlt
      have hbl : b < wr.heap.size := World.block_lt_of_cell? wr _ v0
      have hgl : w.heap.size < wr.heap.size := own_lt o (by simp [bk, Value.ownBlock])
      have hgo := h.gok hlt
      obtain ⟨x, hx⟩ : ∃ x, x = gI l i := ⟨_, rfl⟩
      rw [← gI_eq l i hlt, ← hx] at v0 v1 v2 v3
      rw [← hx] at hgo
      obtain ⟨⟨p1, p2⟩, ⟨p3, p4⟩, ⟨p5, p6⟩, ⟨p7, p8⟩⟩ := hgo
      have HX := hide hx
      have HB := hide hb
      clear hx hb hseg
      cases hs : pst l i i with
      | none =>
        have c0 : wr.cell? ⟨w.heap.size, i * 2, none⟩ = some (.bool false) := own_get o ((kr_get (pst l i) l.length i 0 hlt (by decide)).trans (by rw [hs]; rfl))
        have c1 : wr.cell? ⟨w.heap.size, i * 2 + 1, none⟩ = some (.int .u16 0) := own_get o ((kr_get (pst l i) l.length i 1 hlt (by decide)).trans (by rw [hs]; rfl))
        have hp : pst l (i + 1) = pst l i := Flow.stp_none hs
        have hbi : bad l i = false := by unfold bad; rw [hs]
        have HP := hide hp
        have HBI := hide hbi
        clear hp hbi hs
        go_wp2
        go_roundw
        case rel => exact ⟨i + 1, by omega, by go_num, by rw [HP.out]; exact (o.alloc _).alloc _, fun j hj => (Nat.lt_succ_iff_lt_or_eq.1 hj).elim (HB.out j) (fun e => e ▸ HBI.out), (f.alloc _).alloc _⟩
        case measure => simp [intOf]; omega
      | some S =>
        have hS := h.lt i (by omega) i S hs
        have c0 : wr.cell? ⟨w.heap.size, i * 2, none⟩ = some (.bool true) := own_get o ((kr_get (pst l i) l.length i 0 hlt (by decide)).trans (by rw [hs]; rfl))
        have c1 : wr.cell? ⟨w.heap.size, i * 2 + 1, none⟩ = some (.int .u16 (S : Int)) := own_get o ((kr_get (pst l i) l.length i 1 hlt (by decide)).trans (by rw [hs]; rfl))
        have HS := hide hs
        clear hs
        have hk0 : knd x.code ≠ 0 := by
          intro e
          have hno := h.no i hlt
          rw [← HX.out] at hno
          unfold flt at hno
          rw [e] at hno
          simp at hno
        have hgb : w.heap.size ≠ wr.heap.size := by omega
        have hgb1 : w.heap.size ≠ wr.heap.size + 1 := by omega
        by_cases h9 : knd x.code = 9
        · have hp : pst l (i + 1) = pst l i := by
            have h1 : pst l (i + 1) = Flow.feed (pst l i) (ou l i S) (sc l i) := Flow.stp_some HS.out
            have h2 : sc l i = [] := by unfold sc; rw [← HX.out, if_pos h9]
            rw [h1, h2]; rfl
          have HP := hide hp
          have HBI : Hid (bad l i = false) := bad_no (by rw [← HX.out, h9]; decide)
          clear hp
          go_wp2_with fail
          refine (kindOf_any _ _).mono ?_
          rintro e w2 ⟨rfl, rfl⟩
          rw [h9]
          clear h9 hk0
          go_wp2
          go_roundw
          case rel => exact ⟨i + 1, by omega, by go_num, by rw [HP.out]; exact (o.alloc _).alloc _, lt_succ_or HB.out HBI.out, (f.alloc _).alloc _⟩
          case measure => simp [intOf]; omega
        · have hnx : i + 1 < l.length := h.next hlt (by rw [← HX.out]; exact h9)
          by_cases h3 : knd x.code = 3
          · obtain ⟨hjt, hjf⟩ := h.test hlt (by rw [← HX.out]; exact h3)
            rw [← HX.out] at hjt hjf
            obtain ⟨jn, hjn⟩ := Int.eq_ofNat_of_zero_le p3
            obtain ⟨fn, hfn⟩ := Int.eq_ofNat_of_zero_le p5
            rw [hjn] at hjt v1 p4
            rw [hfn] at hjf v2 p6
            obtain ⟨t0, ht0⟩ : ∃ t, t = i + 1 + jn := ⟨_, rfl⟩
            obtain ⟨t1, ht1⟩ : ∃ t, t = i + 1 + fn := ⟨_, rfl⟩
            have htn0 : t0 < l.length := by omega
            have htn1 : t1 < l.length := by omega
            have hsc : sc l i = [t0, t1] := by unfold sc; rw [← HX.out, if_neg h9, if_neg (by rw [h3]; decide), if_pos h3, hjn, hfn, ht0, ht1]; rfl
            have hou : ou l i S = S := by unfold ou; rw [← HX.out, if_neg (by rw [h3]; decide)]
            have hlt' := h.lt i (by omega)
            obtain ⟨rb, R, T, hkc, hjo, hj⟩ := join_form (pst l i t0) S (fun R hR => hlt' _ R hR) hS
            have hT : T < 65536 := jn_lt (fun R hR => hlt' _ R hR) hS hjo
            obtain ⟨st1, hst1⟩ : ∃ st1 : Nat → Option Nat, st1 = fun y => if y = t0 then some T else pst l i y := ⟨_, rfl⟩
            have hlt1 : ∀ y R, st1 y = some R → R < 65536 := fun y R hR => by
              rw [hst1] at hR
              by_cases e : y = t0
              · simp only [e, if_true, Option.some.injEq] at hR; omega
              · simp only [if_neg e] at hR; exact hlt' y R hR
            obtain ⟨rb2, R2, T2, hkc2, hjo2, hj2⟩ := join_form (st1 t1) S (fun R hR => hlt1 _ R hR) hS
            obtain ⟨st2, hst2⟩ : ∃ st2 : Nat → Option Nat, st2 = fun y => if y = t1 then some T2 else st1 y := ⟨_, rfl⟩
            have HP : Hid (pst l (i + 1) = st2) := by
              have e1 : pst l (i + 1) = Flow.feed (pst l i) (ou l i S) (sc l i) := Flow.stp_some HS.out
              show pst l (i + 1) = st2
              rw [e1, hsc, hou, Flow.feed, hjo, ← hst1, Flow.feed, hjo2, ← hst2, Flow.feed]
            have HJ := hide hj
            have HJ2 := hide hj2
            have HBI : Hid (bad l i = false) := bad_no (by rw [← HX.out, h3]; decide)
            have hw0 : IntKind.i64.wrap (jn : Int) = (jn : Int) := by rw [IntKind.wrap_i64]; omega
            have hw0' : IntKind.i64.wrap (fn : Int) = (fn : Int) := by rw [IntKind.wrap_i64]; omega
            have hw1 : IntKind.i64.wrap ((i : Int) + 1 + (jn : Int)) = (t0 : Int) := by rw [IntKind.wrap_i64]; omega
            have hw2 : IntKind.i64.wrap ((i : Int) + 1 + (fn : Int)) = (t1 : Int) := by rw [IntKind.wrap_i64]; omega
            have HK := hide hkc
            have HK2 := hide hkc2
            have HS1 := hide hst1
            have HS2 := hide hst2
            have ht0i : t0 ≠ i := by omega
            clear hj hjo hj2 hjo2 hkc hkc2 hsc hou h9 hk0 hjn hfn p3 p5 ht0 ht1 hjt hjf hlt' hlt1 hst1 hst2 hT
            go_wp2_with fail
            refine (kindOf_any _ _).mono ?_
            rintro e w2 ⟨rfl, rfl⟩
            rw [h3]
            clear h3
            go_wp2_with fail
            rename World => wA
            go_loopw [53] (fun y wx => ∃ m : Nat, m ≤ 2 ∧ y = .int .i64 m ∧ Own wx 152 2 (some ⟨w.heap.size, 0, none⟩) l.length l.length (kr (sel3 (pst l i) st1 st2 m) l.length) ∧ Fr nob w wx ∧ wx.heap[wA.heap.size + 1]? = some (.cells #[.bool true, .int .u16 S] 152)) (fun y _ => 2 - (intOf y).toNat)
            case atStart => exact ⟨0, by omega, rfl, (o.alloc _).alloc _, (f.alloc _).alloc _, here_heap _ _ _⟩
            case round =>
              clear o f c0 c1 v0 v1 v2 v3
              obtain ⟨m, hm2, rfl, o, f, kx⟩ := hrel
              have q0 : wr.cell? ⟨wA.heap.size + 1, 0, none⟩ = some (.bool true) := cell_blk kx rfl
              have q1 : wr.cell? ⟨wA.heap.size + 1, 1, none⟩ = some (.int .u16 S) := cell_blk kx rfl
              rcases m with _ | _ | _ | m
              · obtain ⟨u0, u1⟩ := own_fact' o htn0 HK.out
                have hix := fun w => ix0 (jn : Int) (fn : Int) w
                go_wp2_with fail
                go_region_with ((go_at_call 81; refine (HJ.out _).mono ?_; rintro e w3 ⟨rfl, f3⟩; obtain ⟨y0, y1, zz, o3, F3, k3⟩ := after_join3 o f kx f3 htn0 u0 u1))
                all_goals (
                  go_wp2
                  go_roundw
                  case rel => exact ⟨1, by omega, by go_num, by show Own _ _ _ _ _ _ (kr st1 l.length); rw [HS1.out]; exact own_fact o3 htn0, (F3.setCell (p := ⟨w.heap.size, _, none⟩) (fun h => absurd h (Nat.lt_irrefl _)) _).setCell (p := ⟨w.heap.size, _, none⟩) (fun h => absurd h (Nat.lt_irrefl _)) _, heap_two k3 hgb1⟩
                  case measure => simp [intOf])
              · obtain ⟨u0, u1⟩ := own_fact' o htn1 HK2.out
                have hix := fun w => ix1 (jn : Int) (fn : Int) w
                go_wp2_with fail
                go_region_with ((go_at_call 81; refine (HJ2.out _).mono ?_; rintro e w3 ⟨rfl, f3⟩; obtain ⟨y0, y1, zz, o3, F3, k3⟩ := after_join3 o f kx f3 htn1 u0 u1))
                all_goals (
                  go_wp2
                  go_roundw
                  case rel => exact ⟨2, by omega, by go_num, by show Own _ _ _ _ _ _ (kr st2 l.length); rw [HS2.out]; exact own_fact o3 htn1, (F3.setCell (p := ⟨w.heap.size, _, none⟩) (fun h => absurd h (Nat.lt_irrefl _)) _).setCell (p := ⟨w.heap.size, _, none⟩) (fun h => absurd h (Nat.lt_irrefl _)) _, heap_two k3 hgb1⟩
                  case measure => simp [intOf])
              · go_wp2
                go_roundw
                case rel => exact ⟨i + 1, by omega, by go_num, by rw [HP.out]; exact o, lt_succ_or HB.out HBI.out, f⟩
                case measure => simp [intOf]; omega
              · omega
          by_cases h2 : knd x.code = 2
          · have hjp := h.jump hlt (by rw [← HX.out]; exact h2)
            rw [← HX.out] at hjp
            obtain ⟨kn, hkn⟩ := Int.eq_ofNat_of_zero_le p7
            rw [hkn] at hjp
            obtain ⟨t, ht⟩ : ∃ t, t = i + 1 + kn := ⟨_, rfl⟩
            have htn : t < l.length := by omega
            have hsc : sc l i = [t] := by unfold sc; rw [← HX.out, if_neg h9, if_pos h2, hkn, ht]; rfl
            have hou : ou l i S = S := by unfold ou; rw [← HX.out, if_neg (by rw [h2]; decide)]
            obtain ⟨rb, R, T, hkc, hjn, hj⟩ := join_form (pst l i t) S (fun R hR => h.lt i (by omega) _ R hR) hS
            have HP : Hid (pst l (i + 1) = fun y => if y = t then some T else pst l i y) := pst_next HS.out hsc (by rw [hou]; exact hjn)
            have HJ := hide hj
            obtain ⟨u0, u1⟩ := own_fact' o htn hkc
            have HBI : Hid (bad l i = false) := bad_no (by rw [← HX.out, h2]; decide)
            rw [hkn] at v3 p8
            have hw0 : IntKind.i64.wrap (kn : Int) = (kn : Int) := by rw [IntKind.wrap_i64]; omega
            have hw1 : IntKind.i64.wrap ((i : Int) + 1 + (kn : Int)) = (t : Int) := by rw [IntKind.wrap_i64]; omega
            clear hj hjn hkc hsc hou h9 h3 hk0 hkn p7 ht hjp
            go_wp2_with fail
            refine (kindOf_any _ _).mono ?_
            rintro e w2 ⟨rfl, rfl⟩
            rw [h2]
            clear h2
            go_wp2_with fail
            go_region_with ((go_at_call 81; refine (HJ.out _).mono ?_; rintro e w3 ⟨rfl, f3⟩; obtain ⟨y0, y1, y2, y3, zz, o3, F3⟩ := after_join o f f3 htn u0 u1))
            all_goals (
              go_wp2
              go_roundw
              case rel => exact ⟨i + 1, by omega, by go_num, by rw [HP.out]; exact own_fact o3 htn, lt_succ_or HB.out HBI.out, (F3.setCell (p := ⟨w.heap.size, _, none⟩) (fun h => absurd h (Nat.lt_irrefl _)) _).setCell (p := ⟨w.heap.size, _, none⟩) (fun h => absurd h (Nat.lt_irrefl _)) _⟩
              case measure => simp [intOf]; omega)
          by_cases h6 : knd x.code = 6
          · have hsc : sc l i = [i + 1] := by unfold sc; rw [← HX.out, if_neg h9, if_neg h2, if_neg h3]
            have hcell := h.cell hlt (.inr (by rw [← HX.out]; exact h6))
            rw [← HX.out] at hcell
            obtain ⟨U, hU⟩ : ∃ U, U = S ||| 1 <<< x.k.toNat := ⟨_, rfl⟩
            have hU1 : U < 65536 := by rw [hU]; exact orLt S x.k hS p7 hcell
            have hou : ou l i S = U := by unfold ou; rw [← HX.out, if_pos h6, hU]
            have HW : Hid (∀ w, Calls Tryz.prog 83 #[.agg #[.bool true, .int .u16 S], .int .u32 x.k] w fun e w' => e = .returned (.agg #[.bool true, .int .u16 (U : Int)]) ∧ Fr nob w w') := by
              rw [hU]; exact fun w => with_any w S x.k hS p7 hcell
            obtain ⟨rb, R, T, hkc, hjn, hj⟩ := join_form (pst l i (i + 1)) U (fun R hR => h.lt i (by omega) _ R hR) hU1
            have HP : Hid (pst l (i + 1) = fun y => if y = i + 1 then some T else pst l i y) := pst_next HS.out hsc (by rw [hou]; exact hjn)
            have HJ := hide hj
            have HBI : Hid (bad l i = false) := bad_no (by rw [← HX.out, h6]; decide)
            obtain ⟨u0, u1⟩ := own_fact' o hnx hkc
            clear hj hjn hkc hsc hou h9 h3 h2 hk0 hU
            go_wp2_with fail
            refine (kindOf_any _ _).mono ?_
            rintro e w2 ⟨rfl, rfl⟩
            rw [h6]
            clear h6
            go_wp2_with fail
            refine (HW.out _).mono ?_
            rintro e w2 ⟨rfl, f2⟩
            obtain ⟨o2, F2, k2⟩ := after_with o f f2
            obtain ⟨x0, x1⟩ := own_kept o o2 hnx u0 u1
            have q0 : w2.cell? ⟨wr.heap.size + 1, 0, none⟩ = some (.bool true) := cell_blk k2 rfl
            have q1 : w2.cell? ⟨wr.heap.size + 1, 1, none⟩ = some (.int .u16 S) := cell_blk k2 rfl
            have q2 : ∀ z, w2.frozen? ⟨wr.heap.size + 1, z, none⟩ = false := fun z => frozen_blk k2
            go_wp2_with fail
            have hq0 : (0 : Int) ≤ (i : Int) + 1 := by omega
            have hq1 : (i : Int) + 1 < (l.length : Int) := by omega
            go_region_with ((go_at_call 81; refine (HJ.out _).mono ?_; rintro e w3 ⟨rfl, f3⟩; obtain ⟨y0, y1, zz, o3, F3⟩ := after_join6 o2 F2 (by omega) hgb1 f3 hnx x0 x1))
            all_goals (
              go_wp2
              go_roundw
              case rel => exact ⟨i + 1, by omega, by go_num, by rw [HP.out]; exact own_fact o3 hnx, lt_succ_or HB.out HBI.out, (F3.setCell (p := ⟨w.heap.size, _, none⟩) (fun h => absurd h (Nat.lt_irrefl _)) _).setCell (p := ⟨w.heap.size, _, none⟩) (fun h => absurd h (Nat.lt_irrefl _)) _⟩
              case measure => simp [intOf]; omega)
          have hsc : sc l i = [i + 1] := by unfold sc; rw [← HX.out, if_neg h9, if_neg h2, if_neg h3]
          have hou : ou l i S = S := by unfold ou; rw [← HX.out, if_neg h6]
          obtain ⟨rb, R, T, hkc, hjn, hj⟩ := join_form (pst l i (i + 1)) S (fun R hR => h.lt i (by omega) _ R hR) hS
          have HP : Hid (pst l (i + 1) = fun y => if y = i + 1 then some T else pst l i y) := pst_next HS.out hsc (by rw [hou]; exact hjn)
          have HJ := hide hj
          obtain ⟨u0, u1⟩ := own_fact' o hnx hkc
          clear hj hjn hkc hsc hou
          by_cases h5 : knd x.code = 5
          · have hcell := h.cell hlt (.inl (by rw [← HX.out]; exact h5))
            rw [← HX.out] at hcell
            obtain ⟨tb, htb⟩ : ∃ tb, tb = S.testBit x.k.toNat := ⟨_, rfl⟩
            have hbd : bad l i = !tb := by
              unfold bad
              rw [HS.out]
              simp only
              rw [← HX.out, h5, htb]; simp
            have HW : Hid (∀ w, Calls Tryz.prog 82 #[.agg #[.bool true, .int .u16 S], .int .u32 x.k] w fun e w' => e = .returned (.bool tb) ∧ Fr nob w w') := by
              rw [htb]; exact fun w => has_any w S x.k hS p7 hcell
            clear htb hcell h9 h3 h2 h6 hk0
            have HBD := hide hbd
            clear hbd
            go_wp2_with fail
            refine (kindOf_any _ _).mono ?_
            rintro e w2 ⟨rfl, rfl⟩
            rw [h5]
            clear h5
            go_wp2_with fail
            refine (HW.out _).mono ?_
            rintro e w2 ⟨rfl, f2⟩
            obtain ⟨o2, F2, k2⟩ := after_with o f f2
            obtain ⟨x0, x1⟩ := own_kept o o2 hnx u0 u1
            have q0 : w2.cell? ⟨wr.heap.size + 1, 0, none⟩ = some (.bool true) := cell_blk k2 rfl
            have q1 : w2.cell? ⟨wr.heap.size + 1, 1, none⟩ = some (.int .u16 S) := cell_blk k2 rfl
            have hsz := f2.size
            cases tb with
            | false =>
              go_wp2
              rw [Exit.noGoto_ret]
              go_ret2
              refine ⟨?_, F2⟩
              have hu : uns l = (9, (i : Int)) := by
                unfold uns
                rw [find_first (bad l) l.length i hlt HBD.out HB.out]
              rw [hu]; rfl
            | true =>
              have HBI : Hid (bad l i = false) := HBD.out
              go_wp2_with fail
              have hq0 : (0 : Int) ≤ (i : Int) + 1 := by omega
              have hq1 : (i : Int) + 1 < (l.length : Int) := by omega
              go_region_with ((go_at_call 81; refine (HJ.out _).mono ?_; rintro e w3 ⟨rfl, f3⟩; obtain ⟨y0, y1, zz, o3, F3⟩ := after_join5 o2 F2 f3 hnx x0 x1))
              all_goals (
                go_wp2
                go_roundw
                case rel => exact ⟨i + 1, by omega, by go_num, by rw [HP.out]; exact own_fact o3 hnx, lt_succ_or HB.out HBI.out, (F3.setCell (p := ⟨w.heap.size, _, none⟩) (fun h => absurd h (Nat.lt_irrefl _)) _).setCell (p := ⟨w.heap.size, _, none⟩) (fun h => absurd h (Nat.lt_irrefl _)) _⟩
                case measure => simp [intOf]; omega)
          · have HBI : Hid (bad l i = false) := bad_no (by rw [← HX.out]; exact h5)
            obtain ⟨k, hk⟩ : ∃ k, k = knd x.code := ⟨_, rfl⟩
            rw [← hk] at h9 h2 h3 h5 h6 hk0
            have q9 : (k == 9) = false := by simp [h9]
            have q2 : (k == 2) = false := by simp [h2]
            have q3 : (k == 3) = false := by simp [h3]
            have q5 : (k == 5) = false := by simp [h5]
            have q6 : (k == 6) = false := by simp [h6]
            clear h9 h2 h3 h5 h6 hk0
            go_wp2_with fail
            refine (kindOf_any _ _).mono ?_
            rintro e w2 ⟨rfl, rfl⟩
            rw [← hk]
            clear hk
            go_wp2_with fail
            have hq0 : (0 : Int) ≤ (i : Int) + 1 := by omega
            have hq1 : (i : Int) + 1 < (l.length : Int) := by omega
            go_region_with ((go_at_call 81; refine (HJ.out _).mono ?_; rintro e w3 ⟨rfl, f3⟩; obtain ⟨y0, y1, y2, y3, zz, o3, F3⟩ := after_join o f f3 hnx u0 u1))
            all_goals (
              go_wp2
              go_roundw
              case rel => exact ⟨i + 1, by omega, by go_num, by rw [HP.out]; exact own_fact o3 hnx, lt_succ_or HB.out HBI.out, (F3.setCell (p := ⟨w.heap.size, _, none⟩) (fun h => absurd h (Nat.lt_irrefl _)) _).setCell (p := ⟨w.heap.size, _, none⟩) (fun h => absurd h (Nat.lt_irrefl _)) _⟩
              case measure => simp [intOf]; omega)
    · have hu : uns l = (0, 0) := by
        unfold uns
        rw [find_none _ _ (fun j hj => hb j (by omega))]
      have HU := hide hu
      clear hu hb hv
      go_wp2
      rw [Exit.noGoto_ret]
      go_ret2
      exact ⟨by rw [HU.out]; rfl, f⟩
end Go.Proofs.YtjgcfffepkmojaaGreat
