import Derived.StillTailTactics
import Derived.Test.YtjgcfffepkmojaaWDecode
import Derived.Test.YtjgcfffepkmojaaMStep
import Derived.Test.YtjgcfffepkmojaaPolV
import Derived.Test.YtjgcfffepkmojaaRRun
namespace Go.Proofs.Ytjgcfffepkmojaa
open Go.RowKit
set_option linter.unusedVariables false

/-! ### A record of a call -/
theorem data_push (ns : List Int) (a : ByteArray) : (ns.foldl (fun r n => r.push (UInt8.ofNat n.toNat)) a).data.toList = a.data.toList ++ ns.map (fun n => UInt8.ofNat n.toNat) := by
  induction ns generalizing a with
  | nil => simp
  | cons n ns ih =>
    simp only [List.foldl_cons, ih, List.map_cons]
    rw [show (a.push (UInt8.ofNat n.toNat)).data.toList = a.data.toList ++ [UInt8.ofNat n.toNat] from Array.toList_push]
    simp
theorem byt_toBA (ns : List Int) (j : Nat) (h : j < ns.length) (hb : 0 ≤ ns[j] ∧ ns[j] < 256) : byt (toBA ns) j = ns[j] := by
  have hs : j < (toBA ns).size := by rw [toBA_size]; exact h
  rw [← byt_eq _ _ hs]
  have h1 : (toBA ns).data.toList = ns.map (fun n => UInt8.ofNat n.toNat) := by
    rw [toBA, data_push]; rfl
  have h2 : ((toBA ns)[j]'hs) = UInt8.ofNat (ns[j]).toNat := by
    have h3 : (toBA ns).data.toList[j]? = some (UInt8.ofNat (ns[j]).toNat) := by rw [h1]; simp [h]
    have h4 : (toBA ns).data.toList[j]? = some ((toBA ns)[j]'hs) := by
      rw [List.getElem?_eq_getElem (by simpa using hs)]; rfl
    rw [h4] at h3
    exact Option.some.inj h3
  rw [h2]
  simp only [UInt8.toNat_ofNat']
  omega
/-- A byte of a number. -/
def bt (x : Int) (j : Nat) : Int := x / 2 ^ (8 * j) % 256
theorem bt_bd (x : Int) (j : Nat) : 0 ≤ bt x j ∧ bt x j < 256 := ⟨Int.emod_nonneg _ (by decide), Int.emod_lt_of_pos _ (by decide)⟩
def f1 (a b : Int) (i j : Nat) : Int := if j < i then bt a j else if 4 ≤ j ∧ j < 4 + i then bt b (j - 4) else 0
def f2 (a b : Int) (q : Nat → Int) (n j : Nat) : Int := if 16 ≤ j ∧ j < 16 + n then bt (q ((j - 16) / 8)) ((j - 16) % 8) else f1 a b 4 j
theorem f1_bd (a b : Int) (i j : Nat) : 0 ≤ f1 a b i j ∧ f1 a b i j < 256 := by
  unfold f1
  have h1 := bt_bd a j
  have h2 := bt_bd b (j - 4)
  split
  · exact h1
  · split
    · exact h2
    · omega
theorem f2_bd (a b : Int) (q : Nat → Int) (n j : Nat) : 0 ≤ f2 a b q n j ∧ f2 a b q n j < 256 := by
  unfold f2
  have h1 := bt_bd (q ((j - 16) / 8)) ((j - 16) % 8)
  split
  · exact h1
  · exact f1_bd _ _ _ _
theorem f1_step (a b : Int) (i : Nat) (hi : i < 4) : putc (putc (f1 a b i) i (bt a i)) (4 + i) (bt b i) = f1 a b (i + 1) := by
  funext j
  unfold putc f1
  by_cases h1 : j = 4 + i
  · subst h1
    rw [if_pos rfl, if_neg (by omega), if_pos (by omega), show 4 + i - 4 = i by omega]
  · rw [if_neg h1]
    by_cases h2 : j = i
    · subst h2
      rw [if_pos rfl, if_pos (by omega)]
    · rw [if_neg h2]
      by_cases h3 : j < i
      · rw [if_pos h3, if_pos (by omega)]
      · rw [if_neg h3, if_neg (show ¬ j < i + 1 by omega)]
        by_cases h4 : 4 ≤ j ∧ j < 4 + i
        · rw [if_pos h4, if_pos (by omega)]
        · rw [if_neg h4, if_neg (by omega)]
theorem f2_step (a b : Int) (q : Nat → Int) (x i : Nat) (hi : i < 8) : putc (f2 a b q (8 * x + i)) (16 + 8 * x + i) (bt (q x) i) = f2 a b q (8 * x + i + 1) := by
  funext j
  unfold putc f2
  by_cases h1 : j = 16 + 8 * x + i
  · subst h1
    rw [if_pos rfl, if_pos (by omega), show (16 + 8 * x + i - 16) / 8 = x by omega, show (16 + 8 * x + i - 16) % 8 = i by omega]
  · rw [if_neg h1]
    by_cases h2 : 16 ≤ j ∧ j < 16 + (8 * x + i)
    · rw [if_pos h2, if_pos (by omega)]
    · rw [if_neg h2, if_neg (by omega)]
def rw64 (f : Nat → Int) : List Int := (List.range 64).map f
theorem rw_get (f : Nat → Int) (j : Nat) (h : j < 64) : (u8s (rw64 f))[j]? = some (.int .u8 (f j)) := by simp [u8s, rw64, h]
theorem rw_set (f : Nat → Int) (j : Nat) (y : Int) : (u8s (rw64 f)).set j (.int .u8 y) = u8s (rw64 (putc f j y)) := by
  apply List.ext_getElem?
  intro k
  rw [List.getElem?_set]
  by_cases h : j = k
  · subst h
    by_cases h2 : j < 64
    · simp [u8s, rw64, h2, putc]
    · simp [u8s, rw64, h2]
  · rw [if_neg h]
    by_cases h2 : k < 64
    · simp [u8s, rw64, h2, putc, Ne.symm h]
    · simp [u8s, rw64, h2]
/-- The 64 bytes that a record is made of. -/
def BB (w : World) (g : Nat) (f : Nat → Int) : Prop := w.heap[g]? = some (.cells (u8s (rw64 f)).toArray 5 (0, 0))
section
variable {w : World} {g : Nat} {f : Nat → Int}
theorem BB.lt (h : BB w g f) : g < w.heap.size := (Array.getElem?_eq_some_iff.1 h).1
theorem BB.cell (h : BB w g f) (j : Nat) (hj : j < 64) : w.cell? ⟨g, j, none⟩ = some (.int .u8 (f j)) := cell_blk h (by rw [List.getElem?_toArray]; exact rw_get f j hj)
theorem BB.fz (h : BB w g f) (j : Nat) : w.frozen? ⟨g, j, none⟩ = false := frozen_blk h
theorem BB.set (h : BB w g f) (j : Nat) (y : Int) : BB (w.setCell ⟨g, j, none⟩ (.int .u8 y)) g (putc f j y) := by
  unfold BB at *
  rw [heap_setCell_same _ _ _ _ _ _ h, ← rw_set]; simp
end
/-- The record. -/
def recB (a b : Int) (q : Nat → Int) : ByteArray := toBA (rw64 (f2 a b q 48))
theorem rec_size (a b : Int) (q : Nat → Int) : (recB a b q).size = 64 := by rw [recB, toBA_size]; simp [rw64]
theorem rec_byt (a b : Int) (q : Nat → Int) (j : Nat) (h : j < 64) : byt (recB a b q) j = f2 a b q 48 j := by
  have hl : j < (rw64 (f2 a b q 48)).length := by simpa [rw64] using h
  have he : (rw64 (f2 a b q 48))[j] = f2 a b q 48 j := by simp [rw64]
  unfold recB
  rw [byt_toBA _ _ hl (by rw [he]; exact f2_bd _ _ _ _ _), he]
theorem bt4 (x : Int) (h : U32 x) : bt x 0 + bt x 1 * 256 + bt x 2 * 65536 + bt x 3 * 16777216 = x := by
  have h0 := h.1
  have h1 := h.2
  unfold bt
  rw [show (2 : Int) ^ (8 * 0) = 1 by decide, show (2 : Int) ^ (8 * 1) = 256 by decide, show (2 : Int) ^ (8 * 2) = 65536 by decide, show (2 : Int) ^ (8 * 3) = 16777216 by decide]
  omega
theorem rec_wd0 (a b : Int) (q : Nat → Int) (ha : U32 a) : wd (recB a b q) 0 = a := by
  unfold wd
  rw [rec_byt _ _ _ _ (by decide), rec_byt _ _ _ _ (by decide), rec_byt _ _ _ _ (by decide), rec_byt _ _ _ _ (by decide)]
  exact bt4 a ha
theorem rec_wd4 (a b : Int) (q : Nat → Int) (hb : U32 b) : wd (recB a b q) 4 = b := by
  unfold wd
  rw [rec_byt _ _ _ _ (by decide), rec_byt _ _ _ _ (by decide), rec_byt _ _ _ _ (by decide), rec_byt _ _ _ _ (by decide)]
  exact bt4 b hb

theorem bb_own {w : World} {g : Nat} {f : Nat → Int} (h : BB w g f) : Own w 5 1 (some ⟨g, 0, none⟩) 64 64 (u8s (rw64 f)) :=
  ⟨by simp [u8s, rw64], .inr ⟨g, 64, _, rfl, Nat.zero_le _, h, Nat.le_refl _, by unfold maxLen; omega, by simp [u8s, rw64], by rw [List.take_of_length_le (by simp [u8s, rw64])]⟩⟩
def qs (q : Nat → Int) : List Value := [.int .u64 (q 0), .int .u64 (q 1), .int .u64 (q 2), .int .u64 (q 3), .int .u64 (q 4), .int .u64 (q 5)]
theorem qs_get (q : Nat → Int) (k : Nat) (h : k < 6) : (qs q)[k]? = some (.int .u64 (q k)) := by
  match k, h with
  | 0, _ => rfl
  | 1, _ => rfl
  | 2, _ => rfl
  | 3, _ => rfl
  | 4, _ => rfl
  | 5, _ => rfl
  | n + 6, h => exact absurd h (by omega)

theorem f2_zero (a b : Int) (q : Nat → Int) : f2 a b q 0 = f1 a b 4 := by
  funext j
  unfold f2
  rw [if_neg (by omega)]
theorem made64 (a b : Int) : (madeCells (Value.int .u8 0).cells (64 * 1)).toList = u8s (rw64 (f1 a b 0)) := by kernel_rfl
theorem own_bb {w : World} {g : Nat} (a b : Int) (h : w.ownsRow 0 5 1 (.slice (some ⟨g, 0, none⟩) 64 64) 64 (madeCells (Value.int .u8 0).cells (64 * 1)).toList) : BB w g (f1 a b 0) := by
  rcases h.2 with ⟨hv, hn⟩ | ⟨g', cap', cur, hv, _, hg, _, _, hs, ht⟩
  · cases hn
  · simp only [Value.slice.injEq, Option.some.injEq, Addr.mk.injEq, true_and, and_true] at hv
    obtain ⟨rfl, rfl⟩ := hv
    rw [made64 a b, List.take_of_length_le (by simp [hs])] at ht
    unfold BB
    rw [hg, ← ht]

set_option maxRecDepth 100000 in
set_option maxHeartbeats 2000000 in
theorem record_any (w : World) (a b : Int) (ha : U32 a) (hb : U32 b) (q : Nat → Int) (hq : ∀ k, U64 (q k)) :
    Calls Try.prog 13 #[.int .u32 a, .int .u32 b, .agg (qs q).toArray] w fun e w' => e = .returned (.string (recB a b q)) ∧ Fr nob w w' := by
  obtain ⟨i0, hi, hz0, hz1, hz2⟩ := info_parts info_u8
  have ka : (w.alloc (.cells (qs q).toArray 36)).heap[w.heap.size]? = some (.cells (qs q).toArray 36 (0, 0)) := heap_alloc_new w _
  have fa : Fr nob w (w.alloc (.cells (qs q).toArray 36)) := (Fr.refl _ w).alloc _
  go_enter Try.func13, Try.ntmps13
  go_wp2_with (at_make; refine wpList_make_full _ rfl _ _ 59 rfl 0 5 i0 (.int .u8 0) 1 Try.underlying59 hi hz0 hz1 _ _ _ _ 64 rfl rfl (by omega) (by omega) ?b1 ?b2 ?b3 ?_)
  case b1 => rw [hz2]; omega
  case b2 => unfold maxLen; omega
  case b3 => omega
  intro w1 o1 g1
  have fw : Fr nob w w1 := (fa.grown g1 (fun k _ h => by cases h))
  have kb : w1.heap[w.heap.size]? = some (.cells (qs q).toArray 36 (0, 0)) := by
    rw [g1.block _ (by rw [World.size_alloc]; omega) (by simp)]
    exact ka
  have b1 := own_bb a b o1
  obtain ⟨g, hge⟩ : ∃ g, g = w.heap.size + 1 := ⟨_, rfl⟩
  obtain ⟨d, hde⟩ : ∃ d, d = w.heap.size := ⟨_, rfl⟩
  rw [← hge]
  rw [← hge] at b1
  rw [← hde] at kb ⊢
  have hgd : g ≠ d := by omega
  have hgw : w.heap.size ≤ g := by omega
  have HGW := hide hgw
  have B1 := hide b1
  have K1 := hide kb
  have F1 := hide fw
  have HGD := hide hgd
  have HQ := hide hq
  clear ka fa fw kb o1 g1 b1 hge hde hgd hgw hq
  go_wp2_with fail
  go_loopw [8] (fun x wr => ∃ k : Nat, k ≤ 4 ∧ x = .int .i64 k ∧ BB wr g (f1 a b k) ∧ wr.heap[d]? = some (.cells (qs q).toArray 36 (0, 0)) ∧ Fr nob w wr) (fun x _ => 4 - (intOf x).toNat)
  case atStart => exact ⟨0, by omega, rfl, B1.out, K1.out, F1.out⟩
  case round =>
    clear B1 K1 F1
    obtain ⟨k, hk, rfl, hb1, kb, f⟩ := hrel
    by_cases h1 : k < 4
    · have c0 := hb1.cell k (by omega)
      have c1 := hb1.cell (4 + k) (by omega)
      have z := hb1.fz
      have hg := hb1.lt
      have e0 : (k : Int) < 64 := by omega
      have e1 : (4 : Int) + (k : Int) < 64 := by omega
      have e2 : (0 : Int) ≤ 8 * (k : Int) := by omega
      have e3 : 8 * (k : Int) < 32 := by omega
      have e4 : (k : Int) < 4 := by omega
      have HB := hide hb1
      have KB := hide kb
      have FF := hide f
      clear hb1 kb f
      go_wp2
      refine ⟨⟨k + 1, by omega, by go_num, ?_, ?_, ?_⟩, ?_⟩
      · rw [← f1_step a b k h1]
        exact (HB.out.set k (bt a k)).set (4 + k) (bt b k)
      · rw [heap_setCell_other _ _ _ _ HGD.out.symm, heap_setCell_other _ _ _ _ HGD.out.symm]
        exact KB.out
      · exact fr_new (fr_new FF.out HGW.out (only_set (Fr.refl _ wr) k _)) HGW.out (only_set (Fr.refl _ _) (4 + k) _)
      · simp [intOf]; omega
    · obtain rfl : k = 4 := by omega
      rw [← f2_zero a b q] at hb1
      have HB := hide hb1
      have KB := hide kb
      have FF := hide f
      clear hb1 kb f h1 hk
      go_wp2_with fail
      go_loopw [9] (fun y wr => ∃ x : Nat, x ≤ 6 ∧ y = .int .i64 x ∧ BB wr g (f2 a b q (8 * x)) ∧ wr.heap[d]? = some (.cells (qs q).toArray 36 (0, 0)) ∧ Fr nob w wr) (fun y _ => 6 - (intOf y).toNat)
      case atStart => exact ⟨0, by omega, rfl, HB.out, KB.out, FF.out⟩
      case round =>
        clear HB KB FF
        obtain ⟨x, hx, rfl, hb1, kb, f⟩ := hrel
        by_cases h1 : x < 6
        · have e5 : (x : Int) < 6 := by omega
          have HB := hide hb1
          have KB := hide kb
          have FF := hide f
          clear hb1 kb f
          go_wp2_with fail
          go_loopw [10] (fun y wr => ∃ i : Nat, i ≤ 8 ∧ y = .int .i64 i ∧ BB wr g (f2 a b q (8 * x + i)) ∧ wr.heap[d]? = some (.cells (qs q).toArray 36 (0, 0)) ∧ Fr nob w wr) (fun y _ => 8 - (intOf y).toNat)
          case atStart => exact ⟨0, by omega, rfl, HB.out, KB.out, FF.out⟩
          case round =>
            clear HB KB FF
            obtain ⟨i, hi8, rfl, hb1, kb, f⟩ := hrel
            by_cases h2 : i < 8
            · have c0 := hb1.cell (16 + 8 * x + i) (by omega)
              have cq : wr.cell? ⟨d, x, none⟩ = some (.int .u64 (q x)) := cell_blk kb (by rw [List.getElem?_toArray]; exact qs_get q x h1)
              have z := hb1.fz
              have hg := hb1.lt
              have e0 : (i : Int) < 8 := by omega
              have e1 : (16 : Int) + 8 * (x : Int) + (i : Int) < 64 := by omega
              have e2 : (0 : Int) ≤ 8 * (i : Int) := by omega
              have e3 : 8 * (i : Int) < 64 := by omega
              have e6 : (0 : Int) ≤ 16 + 8 * (x : Int) + (i : Int) := by omega
              have HB := hide hb1
              have KB := hide kb
              have FF := hide f
              clear hb1 kb f
              go_wp2
              refine ⟨⟨i + 1, by omega, by go_num, ?_, ?_, ?_⟩, ?_⟩
              · rw [← Nat.add_assoc, ← f2_step a b q x i h2]
                exact HB.out.set (16 + 8 * x + i) (bt (q x) i)
              · rw [heap_setCell_other _ _ _ _ HGD.out.symm]
                exact KB.out
              · exact fr_new FF.out HGW.out (only_set (Fr.refl _ wr) _ _)
              · simp [intOf]; omega
            · obtain rfl : i = 8 := by omega
              have HB := hide hb1
              have KB := hide kb
              have FF := hide f
              clear hb1 kb f
              go_wp2
              refine ⟨⟨x + 1, by omega, by go_num, ?_, KB.out, FF.out⟩, ?_⟩
              · rw [show 8 * (x + 1) = 8 * x + 8 by omega]
                exact HB.out
              · simp [intOf]; omega
        · obtain rfl : x = 6 := by omega
          have HO := hide (conv_own wr (some ⟨g, 0, none⟩) 64 64 _ (bb_own hb1))
          have hcv := HO.out
          have FF := hide f
          clear hb1 kb f
          go_wp2
          go_ret
          exact ⟨rfl, FF.out⟩
#print axioms record_any
end Go.Proofs.Ytjgcfffepkmojaa
