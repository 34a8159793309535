import Derived.Test.YtfniofpeilgnnaaGreatEncode
namespace Go.Proofs.YtfniofpeilgnnaaGreat
open Go.RowKit
set_option linter.unusedVariables false

theorem Fr.like {S : Nat → Prop} {a b b' : World} (h : Fr S a b) (e1 : b'.os = b.os) (e2 : b'.tape = b.tape) (e3 : b'.output = b.output) (e4 : b'.heap = b.heap) : Fr S a b' :=
  ⟨e1.trans h.os, e2.trans h.tape, e3.trans h.output, by rw [e4]; exact h.size, fun k hk hs => by rw [e4]; exact h.block k hk hs⟩
/-- A string's byte. -/
def byt (s : ByteArray) (j : Nat) : Int := if h : j < s.size then ((s[j]'h).toNat : Int) else 0
theorem byt_eq (s : ByteArray) (j : Nat) (h : j < s.size) : ((s[j]'h).toNat : Int) = byt s j := by rw [byt, dif_pos h]
theorem byt_bd (s : ByteArray) (j : Nat) : 0 ≤ byt s j ∧ byt s j < 256 := by
  unfold byt
  split
  · rename_i h; have := (s[j]'h).toNat_lt; omega
  · omega
theorem bcs_byt (s : ByteArray) (k : Nat) (h : k < s.size) : (bcs s)[k]? = some (.int .u8 (byt s k)) := by rw [bcs_get s k h, byt_eq]
/-- A word. -/
def wd (s : ByteArray) (k : Nat) : Int := byt s k + byt s (k + 1) * 256 + byt s (k + 2) * 65536 + byt s (k + 3) * 16777216
/-- The instruction at a place. -/
def decI (s : ByteArray) (i : Nat) : Ins := ⟨byt s i + byt s (i + 1) * 256, byt s (i + 2), byt s (i + 3), wd s (i + 4)⟩
def decL (s : ByteArray) (n : Nat) : List Ins := (List.range n).map fun k => decI s (k * 8)
theorem decL_len (s : ByteArray) (n : Nat) : (decL s n).length = n := by simp [decL]
theorem decL_succ (s : ByteArray) (n : Nat) : decL s (n + 1) = decL s n ++ [decI s (n * 8)] := by simp [decL, List.range_succ]
theorem wd_code (s : ByteArray) (i : Nat) : wd s i % 65536 = byt s i + byt s (i + 1) * 256 := by
  have h0 := byt_bd s i
  have h1 := byt_bd s (i + 1)
  have h2 := byt_bd s (i + 2)
  have h3 := byt_bd s (i + 3)
  unfold wd
  omega
theorem wd_bd (s : ByteArray) (i : Nat) : 0 ≤ wd s i ∧ wd s i < 4294967296 := by
  have h0 := byt_bd s i
  have h1 := byt_bd s (i + 1)
  have h2 := byt_bd s (i + 2)
  have h3 := byt_bd s (i + 3)
  unfold wd
  omega
theorem byte_lt (b : UInt8) : (b.toNat : Int) < 256 := by have := b.toNat_lt; omega

set_option maxRecDepth 100000 in
set_option maxHeartbeats 1000000 in
theorem word_any (w : World) (s : ByteArray) (k : Nat) (hk : k + 4 ≤ s.size) (hs : s.size ≤ 100000000) :
    Calls Tryz.prog 44 #[.string s, .int .i64 k] w fun e w' => e = .returned (.int .u32 (wd s k)) ∧ ∃ n, w' = w.drewN n := by
  have h0 := byte_lt (s[k]'(by omega))
  have h1 := byte_lt (s[k+1]'(by omega))
  have h2 := byte_lt (s[k+2]'(by omega))
  have h3 := byte_lt (s[k+3]'(by omega))
  have q0 : (k : Int) < (s.size : Int) := by omega
  have q1 : (k : Int) + 1 < (s.size : Int) := by omega
  have q2 : (k : Int) + 2 < (s.size : Int) := by omega
  have q3 : (k : Int) + 3 < (s.size : Int) := by omega
  have z1 : (0 : Int) ≤ (k : Int) + 1 := by omega
  have z2 : (0 : Int) ≤ (k : Int) + 2 := by omega
  have z3 : (0 : Int) ≤ (k : Int) + 3 := by omega
  have e1 : ((k : Int) + 1).toNat = k + 1 := by omega
  have e2 : ((k : Int) + 2).toNat = k + 2 := by omega
  have e3 : ((k : Int) + 3).toNat = k + 3 := by omega
  have w1 : IntKind.i64.wrap ((k : Int) + 1) = (k : Int) + 1 := by simp [IntKind.wrap_i64]; omega
  have w2 : IntKind.i64.wrap ((k : Int) + 2) = (k : Int) + 2 := by simp [IntKind.wrap_i64]; omega
  have w3 : IntKind.i64.wrap ((k : Int) + 3) = (k : Int) + 3 := by simp [IntKind.wrap_i64]; omega
  go_enter Tryz.func44, Tryz.ntmps44
  go_wp2_with fail
  go_quiet (fail)
  go_wp2
  go_ret
  refine ⟨?_, _, rfl⟩
  simp only [wd, byt, dif_pos (show k < s.size by omega), dif_pos (show k + 1 < s.size by omega), dif_pos (show k + 2 < s.size by omega), dif_pos (show k + 3 < s.size by omega)]
  rfl


theorem rDecode_bad (w : World) (s : ByteArray) (hs : s.size ≤ 100000000) (h : s.size % 8 ≠ 0 ∨ s.size = 0 ∨ 32768 < s.size) :
    Calls Tryz.prog 23 #[.string s] w fun e w' => e = .returned (.tuple #[.slice none 0 0, .int .i64 1]) ∧ w' = w := by
  by_cases h1 : s.size % 8 = 0
  · by_cases h2 : s.size = 0
    · have b1 : (s.size % 8 == 0) = true := by simp [h1]
      have b2 : (s.size == 0) = true := by simp [h2]
      go_enter Tryz.func23, Tryz.ntmps23
      go_wp2
      go_ret2
      exact ⟨rfl, rfl⟩
    · have h3 : 32768 < s.size := by omega
      have h0 : 0 < s.size := by omega
      have e0 : ((s.size : Int) == 0) = false := beq_eq_false_iff_ne.2 (by omega)
      have e1 : ((s.size : Int) % 8 != 0) = false := by simp; omega
      clear h h2
      go_enter Tryz.func23, Tryz.ntmps23
      go_wp2
      go_ret2
      exact ⟨rfl, rfl⟩
  · have e1 : ((s.size : Int) % 8 != 0) = true := by rw [bne_iff_ne]; omega
    clear h
    go_enter Tryz.func23, Tryz.ntmps23
    go_wp2
    go_ret2
    exact ⟨rfl, rfl⟩

theorem word_at (w : World) (s : ByteArray) (k : Nat) (a : Int) (ha : a = (k : Int)) (hk : k + 4 ≤ s.size) (hs : s.size ≤ 100000000) :
    Calls Tryz.prog 44 #[.string s, .int .i64 a] w fun e w' => e = .returned (.int .u32 (wd s k)) ∧ ∃ n, w' = w.drewN n := by
  subst ha; exact word_any w s k hk hs

set_option maxRecDepth 100000 in
set_option maxHeartbeats 4000000 in
theorem rDecode_ok (w : World) (s : ByteArray) (n : Nat) (hn : s.size = n * 8) (h0 : 0 < n) (hs : n ≤ 4096) :
    Calls Tryz.prog 23 #[.string s] w fun e w' => ∃ a c, e = .returned (.tuple #[.slice a n c, .int .i64 0]) ∧
      Own w' 29 4 a n c (flat (decL s n)) ∧ (∀ x, bk (.slice a n c) x → w.heap.size ≤ x) ∧ Fr nob w w' := by
  have e0 : ((s.size : Int) == 0) = false := beq_eq_false_iff_ne.2 (by omega)
  have e1 : ((s.size : Int) % 8 != 0) = false := by simp; omega
  have e2 : ¬ (32768 : Int) < (s.size : Int) := by omega
  have hsz : s.size ≤ 32768 := by omega
  have HN := hide hn
  clear hn
  obtain ⟨i0, hi, hz0, hz1, hz2⟩ := info_parts info_insn
  go_enter Tryz.func23, Tryz.ntmps23
  go_wp2_with fail
  go_loopw [4, 5] (fun l i wr => ∃ (k j : Nat) (a : Option Addr) (c : Nat), k ≤ n ∧ Hid (j = k * 8) ∧ i = .int .i64 j ∧ l = .slice a k c ∧ (∀ x, bk (.slice a k c) x → w.heap.size ≤ x) ∧ Own wr 29 4 a k c (flat (decL s k)) ∧ Fr nob w wr) (fun _ i _ => s.size - (intOf i).toNat)
  case atStart => exact ⟨0, 0, none, 0, by omega, rfl, rfl, rfl, fun x hx => by simp [bk, Value.ownBlock] at hx, World.ownsRow_nil _ _ _ _, Fr.refl _ _⟩
  case round =>
    obtain ⟨k, j, a, c, hk, HJ, rfl, rfl, hg, o, f⟩ := hrel
    by_cases h1 : k < n
    · have hj : j + 8 ≤ s.size := by have := HN.out; have := HJ.out; omega
      have hlt : (j : Int) < (s.size : Int) := by omega
      go_wp2_with fail
      refine (word_at _ s j _ rfl (by omega) (by omega)).mono ?_
      rintro e w1 ⟨rfl, n1, rfl⟩
      have q2 : (j : Int) + 2 < (s.size : Int) := by omega
      have q3 : (j : Int) + 3 < (s.size : Int) := by omega
      have z2 : (0 : Int) ≤ (j : Int) + 2 := by omega
      have z3 : (0 : Int) ≤ (j : Int) + 3 := by omega
      have t2 : ((j : Int) + 2).toNat = j + 2 := by omega
      have t3 : ((j : Int) + 3).toNat = j + 3 := by omega
      have ww2 : IntKind.i64.wrap ((j : Int) + 2) = (j : Int) + 2 := by simp [IntKind.wrap_i64]; omega
      have ww3 : IntKind.i64.wrap ((j : Int) + 3) = (j : Int) + 3 := by simp [IntKind.wrap_i64]; omega
      have ww4 : IntKind.i64.wrap ((j : Int) + 4) = (j : Int) + 4 := by simp [IntKind.wrap_i64]; omega
      go_wp2_with fail
      have hcs : [Value.int .u16 (wd s j % 65536), .int .u8 ((s[j + 2]'(by omega)).toNat : Int), .int .u8 ((s[j + 3]'(by omega)).toNat : Int), .int .u32 (wd s (j + 4))] = (decI s j).cs := by
        rw [byt_eq, byt_eq, wd_code]; rfl
      have HC := hide hcs
      clear hcs
      have hu16 : IntKind.u16.wrap (wd s j) = wd s j % 65536 := by simp [IntKind.wrap, IntKind.bits, IntKind.signed]
      go_region_held3 (fun _ => True) (trivial)
        (first | (go_at_call 44; refine (word_at _ s (j + 4) _ (by omega) (by omega) (by omega)).mono ?_; rintro e w1 ⟨rfl, n2, rfl⟩) | (refine step_append_keep _ rfl _ _ 30 rfl 29 i0 _ 4 8 Tryz.underlying30 hi hz0 hz1 hz2 rfl (by decide) a k c (flat (decL s k)) rfl (by exact o.alloc _) ⟨wr.heap.size, 0, none⟩ 1 1 [Value.int .u16 (wd s j % 65536), .int .u8 ((s[j + 2]'(by omega)).toNat : Int), .int .u8 ((s[j + 3]'(by omega)).toNat : Int), .int .u32 (wd s (j + 4))] rfl rfl (by exact World.news_of_block (heap_alloc_new wr _)) (one_of _ rfl) (by decide) (by unfold maxLen; omega) (by omega) (wr.heap.size + 1) (by simp) ?_; intro g2 c2 w2 o2 o3 f2 hat; have f3 : Fr nob w w2 := Fr.step (by exact (f.alloc _).like rfl rfl rfl rfl) f2 (fun x hx e => by have := hg x e; omega)))
      all_goals
        have hsz2 := f.size
        have hg2 : ∀ x, bk (.slice (some ⟨g2, 0, none⟩) (k + 1) c2) x → w.heap.size ≤ x := fun x hx => by
          simp only [bk, Value.ownBlock, Option.some.injEq] at hx
          subst hx
          rcases hat with e | e
          · exact hg _ e
          · omega
        rw [HC.out, HJ.out, ← flat_one, ← flat_append, ← decL_succ] at o2
        have HG := hide hg2
        clear HC o f hat f2 hg hg2 o3 hu16
        go_wp2
        go_roundw
      all_goals first
        | exact ⟨k + 1, j + 8, some ⟨g2, 0, none⟩, c2, by omega, show j + 8 = (k + 1) * 8 by have := HJ.out; omega, by go_num, rfl, HG, o2, f3⟩
        | (simp [intOf]; omega)
    · have hkn : k = n := by omega
      subst hkn
      have hj : ¬ (j : Int) < (s.size : Int) := by have := HN.out; have := HJ.out; omega
      go_wp2
      go_ret2
      exact ⟨a, c, rfl, o, hg, f⟩
#print axioms rDecode_ok
end Go.Proofs.YtfniofpeilgnnaaGreat
