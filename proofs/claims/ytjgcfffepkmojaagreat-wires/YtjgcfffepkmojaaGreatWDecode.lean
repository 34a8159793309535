import Derived.Test.YtjgcfffepkmojaaGreatStill
import Derived.Laws.BytesString
import Derived.Lib.EndianBits
namespace Go.Proofs.YtjgcfffepkmojaaGreat
open Go.RowKit
set_option linter.unusedVariables false

/-- An instruction's bytes. -/
def Ins.bs (x : Ins) : List Int := [x.code % 256, x.code / 256, x.jt, x.jf, x.k % 256, x.k / 256 % 256, x.k / 65536 % 256, x.k / 16777216]
def enc : List Ins → List Int
  | [] => []
  | x :: l => x.bs ++ enc l
theorem enc_len (l : List Ins) : (enc l).length = l.length * 8 := by
  induction l with
  | nil => rfl
  | cons x l ih => simp [enc, Ins.bs, ih]; omega
theorem enc_append (l m : List Ins) : enc (l ++ m) = enc l ++ enc m := by
  induction l with
  | nil => rfl
  | cons x l ih => simp [enc, ih]
theorem enc_snoc (l : List Ins) (k : Nat) (h : k < l.length) : enc (l.take (k + 1)) = enc (l.take k) ++ (l[k]).bs := by
  rw [List.take_succ_eq_append_getElem h, enc_append]; simp [enc]
def u8s (l : List Int) : List Value := l.map (Value.int .u8)
theorem u8s_one (l : List Int) : ∀ u ∈ u8s l, u.oneCell' = true := by
  intro u hu
  simp only [u8s, List.mem_map] at hu
  obtain ⟨b, _, rfl⟩ := hu
  rfl
def toBA (ns : List Int) : ByteArray := ns.foldl (fun r n => r.push (UInt8.ofNat n.toNat)) ByteArray.empty
theorem size_foldl_push (ns : List Int) (a : ByteArray) : (ns.foldl (fun r n => r.push (UInt8.ofNat n.toNat)) a).size = a.size + ns.length := by
  induction ns generalizing a with
  | nil => simp
  | cons n ns ih =>
    simp only [List.foldl_cons, ih, List.length_cons]
    rw [show (a.push (UInt8.ofNat n.toNat)).size = a.size + 1 from Array.size_push _]
    omega
theorem toBA_size (ns : List Int) : (toBA ns).size = ns.length := by
  rw [toBA, size_foldl_push]; simp

theorem two_new (w : World) (a b : Obj) : ((w.alloc a).alloc b).heap[w.heap.size + 1]? = some b := by
  have := heap_alloc_new (w.alloc a) b
  rwa [World.size_alloc] at this
theorem u8s_append (l m : List Int) : u8s (l ++ m) = u8s l ++ u8s m := by simp [u8s]

/-- string(b), b of the call's own. -/
theorem conv_own (w : World) (ao : Option Addr) (n cap : Nat) (ns : List Int) (h : Own w 5 1 ao n cap (u8s ns)) :
    (convert 32 9 (.slice ao n cap)).run Tryz.prog w = .ok (.string (toBA ns)) w := by
  rw [run_convert_bytes_string w 32 9 5 ao n cap Tryz.underlying32 Tryz.underlying5 Tryz.underlying9]
  have hl : ns.length = n := by have := h.1; simpa [u8s] using this
  rcases h.2 with ⟨hv, hn⟩ | ⟨g, cap', cur, hv, _, hg, _⟩
  · simp only [Value.slice.injEq] at hv
    obtain ⟨rfl, rfl, rfl⟩ := hv
    have : ns = [] := List.eq_nil_of_length_eq_zero hl
    subst this
    rfl
  · simp only [Value.slice.injEq, true_and] at hv
    obtain ⟨rfl, rfl⟩ := hv
    refine run_bytesToString w ⟨g, 0, none⟩ n cap ns ?_
    have := run_loadCells_list (P := Tryz.prog) w ⟨g, 0, none⟩ (u8s ns) (fun j v hj => by rw [Addr.add_lit, Nat.zero_add]; exact own_get h hj)
    rw [show (u8s ns).length = n by simp [u8s, hl]] at this
    exact this

set_option maxRecDepth 100000 in
set_option maxHeartbeats 1000000 in
theorem wEncode_any (w : World) (ao : Option Addr) (cap : Nat) (l : List Ins) (hs : l.length ≤ 17592186043904) (hv : View w ao (flat l)) (hok : ∀ x ∈ l, x.ok) :
    Calls Tryz.prog 49 #[.slice ao l.length cap] w fun e w' => ∃ g c, e = .returned (.slice (some ⟨g, 0, none⟩) (l.length * 8) c) ∧
      Own w' 5 1 (some ⟨g, 0, none⟩) (l.length * 8) c (u8s (enc l)) ∧ w.heap.size ≤ g ∧ Fr nob w w' := by
  obtain ⟨i0, hi, hz0, hz1, hz2⟩ := info_parts info_u8
  go_enter Tryz.func49, Tryz.ntmps49
  go_wp2_with (at_make; refine wpList_make_own _ rfl _ _ 32 rfl 0 5 i0 (.int .u8 0) 1 Tryz.underlying32 hi hz0 hz1 _ _ _ (l.length * 8) rfl rfl (by omega) ?b1 ?b2 ?b3 ?_)
  case b1 => rw [hz2]; omega
  case b2 => unfold maxLen; omega
  case b3 => omega
  intro w1 o1 g1
  have f1 : Fr nob w w1 := (Fr.refl _ w).grown g1 (fun k _ h => by cases h)
  clear g1
  go_wp2_with fail
  go_loopw [3, 12] (fun b i wr => ∃ (k : Nat) (g c : Nat), k ≤ l.length ∧ i = .int .i64 k ∧ b = .slice (some ⟨g, 0, none⟩) (k * 8) c ∧ w.heap.size ≤ g ∧ Own wr 5 1 (some ⟨g, 0, none⟩) (k * 8) c (u8s (enc (l.take k))) ∧ Fr nob w wr) (fun _ i _ => l.length - (intOf i).toNat)
  case atStart => exact ⟨0, w.heap.size, l.length * 8, by omega, rfl, rfl, Nat.le_refl _, o1, f1⟩
  case round =>
    clear o1 f1
    obtain ⟨k, g, c, hk, rfl, rfl, hg, o, f⟩ := hrel
    by_cases h1 : k < l.length
    · have hne : flat l ≠ [] := by intro e; have := flat_len l; rw [e] at this; simp at this; omega
      obtain ⟨b, off, rfl, hseg⟩ := (hv.fr0 f).some hne
      obtain ⟨v0, v1, v2, v3⟩ := hseg.ins k h1
      obtain ⟨⟨p1, p2⟩, ⟨p3, p4⟩, ⟨p5, p6⟩, ⟨p7, p8⟩⟩ := hok l[k] (List.getElem_mem h1)
      have hb : b < wr.heap.size := World.block_lt_of_cell? wr _ v0
      clear hseg
      go_wp2_with (at_builtin; refine wpList_append_keep _ rfl _ _ 32 rfl 5 i0 (.int .u8 0) 1 1 Tryz.underlying32 hi hz0 hz1 hz2 rfl (by decide) _ _ _ _ rfl ((o.alloc _).alloc _) ⟨wr.heap.size + 1, 0, none⟩ 8 8 (u8s (l[k]).bs) rfl rfl ?c1 ?c2 (by decide) ?c3 ?c4 (wr.heap.size + 2) (by simp) ?_)
      case c1 => exact World.news_of_block (two_new wr _ _)
      case c2 => exact u8s_one _
      case c3 => unfold maxLen; omega
      case c4 => omega
      intro g2 c2 w2 o2 _ f2 hat
      have f3 : Fr nob w w2 := ((f.alloc _).alloc _).step f2 (fun j hj e => by simp only [bk, Value.ownBlock, Option.some.injEq] at e; omega)
      have hsz := f.size
      have hg2 : w.heap.size ≤ g2 := by
        rcases hat with e | e
        · simp only [bk, Value.ownBlock, Option.some.injEq] at e; omega
        · omega
      rw [← u8s_append, ← enc_snoc l k h1] at o2
      clear o f hat hsz f2 hb v0 v1 v2 v3 p1 p2 p3 p4 p5 p6 p7 p8
      go_wp2
      go_roundw
      case rel => exact ⟨k + 1, g2, c2, by omega, by go_num, by rw [Nat.succ_mul], hg2, by rw [Nat.succ_mul]; exact o2, f3⟩
      case measure => simp [intOf]; omega
    · have hkl : k = l.length := by omega
      subst hkl
      rw [List.take_length] at o
      go_wp2
      go_ret
      exact ⟨g, c, rfl, o, hg, f⟩

theorem sEncode_any (w : World) (ao : Option Addr) (cap : Nat) (l : List Ins) (hs : l.length ≤ 17592186043904) (hv : View w ao (flat l)) (hok : ∀ x ∈ l, x.ok) :
    Calls Tryz.prog 28 #[.slice ao l.length cap] w fun e w' => ∃ g c, e = .returned (.slice (some ⟨g, 0, none⟩) (l.length * 8) c) ∧
      Own w' 5 1 (some ⟨g, 0, none⟩) (l.length * 8) c (u8s (enc l)) ∧ w.heap.size ≤ g ∧ Fr nob w w' := by
  go_enter Tryz.func28, Tryz.ntmps28
  go_wp2_with fail
  refine (wEncode_any _ ao cap l hs hv hok).mono ?_
  rintro e w1 ⟨g, c, rfl, o, hg, f⟩
  go_wp2
  go_ret
  exact ⟨g, c, rfl, o, hg, f⟩

set_option maxRecDepth 100000 in
set_option maxHeartbeats 1000000 in
theorem rEncode_any (w : World) (ao : Option Addr) (cap : Nat) (l : List Ins) (hs : l.length ≤ 17592186043904) (hv : View w ao (flat l)) (hok : ∀ x ∈ l, x.ok) :
    Calls Tryz.prog 10 #[.slice ao l.length cap] w fun e w' => e = .returned (.string (toBA (enc l))) ∧ Fr nob w w' := by
  obtain ⟨i0, hi, hz0, hz1, hz2⟩ := info_parts info_u8
  go_enter Tryz.func10, Tryz.ntmps10
  go_wp2_with fail
  go_loopw [3, 4] (fun b i wr => ∃ (k : Nat) (a : Option Addr) (c : Nat), k ≤ l.length ∧ i = .int .i64 k ∧ b = .slice a (k * 8) c ∧ (∀ x, bk (.slice a (k * 8) c) x → w.heap.size ≤ x) ∧ Own wr 5 1 a (k * 8) c (u8s (enc (l.take k))) ∧ Fr nob w wr) (fun _ i _ => l.length - (intOf i).toNat)
  case atStart => exact ⟨0, none, 0, by omega, rfl, rfl, fun x hx => by simp [bk, Value.ownBlock] at hx, World.ownsRow_nil _ _ _ _, Fr.refl _ _⟩
  case round =>
    obtain ⟨k, a, c, hk, rfl, rfl, hg, o, f⟩ := hrel
    by_cases h1 : k < l.length
    · have hne : flat l ≠ [] := by intro e; have := flat_len l; rw [e] at this; simp at this; omega
      obtain ⟨b, off, rfl, hseg⟩ := (hv.fr0 f).some hne
      obtain ⟨v0, v1, v2, v3⟩ := hseg.ins k h1
      obtain ⟨⟨p1, p2⟩, ⟨p3, p4⟩, ⟨p5, p6⟩, ⟨p7, p8⟩⟩ := hok l[k] (List.getElem_mem h1)
      have hb : b < wr.heap.size := World.block_lt_of_cell? wr _ v0
      clear hseg
      go_wp2_with (at_builtin; refine wpList_append_keep _ rfl _ _ 32 rfl 5 i0 (.int .u8 0) 1 1 Tryz.underlying32 hi hz0 hz1 hz2 rfl (by decide) _ _ _ _ rfl ((o.alloc _).alloc _) ⟨wr.heap.size + 1, 0, none⟩ 8 8 (u8s (l[k]).bs) rfl rfl ?c1 ?c2 (by decide) ?c3 ?c4 (wr.heap.size + 2) (by simp) ?_)
      case c1 => exact World.news_of_block (two_new wr _ _)
      case c2 => exact u8s_one _
      case c3 => unfold maxLen; omega
      case c4 => omega
      intro g2 c2 w2 o2 _ f2 hat
      have f3 : Fr nob w w2 := ((f.alloc _).alloc _).step f2 (fun j hj e => by have := hg j e; omega)
      have hsz := f.size
      have hg2 : ∀ x, bk (.slice (some ⟨g2, 0, none⟩) (k * 8 + 8) c2) x → w.heap.size ≤ x := fun x hx => by
        simp only [bk, Value.ownBlock, Option.some.injEq] at hx
        subst hx
        rcases hat with e | e
        · exact hg _ e
        · omega
      rw [← u8s_append, ← enc_snoc l k h1] at o2
      have HG := hide hg2
      clear o f hat hsz f2 hb v0 v1 v2 v3 p1 p2 p3 p4 p5 p6 p7 p8 hg hg2
      go_wp2
      go_roundw
      case rel => exact ⟨k + 1, some ⟨g2, 0, none⟩, c2, by omega, by go_num, by rw [Nat.succ_mul], by rw [Nat.succ_mul]; exact HG, by rw [Nat.succ_mul]; exact o2, f3⟩
      case measure => simp [intOf]; omega
    · have hkl : k = l.length := by omega
      subst hkl
      rw [List.take_length] at o
      have hcv := conv_own wr a (l.length * 8) c (enc l) o
      go_wp2
      go_ret
      exact ⟨rfl, f⟩
#print axioms rEncode_any
end Go.Proofs.YtjgcfffepkmojaaGreat

namespace Go.Proofs.YtjgcfffepkmojaaGreat
open Go.RowKit
set_option linter.unusedVariables false

theorem Fr.like {S : Nat → Prop} {a b b' : World} (h : Fr S a b) (e1 : b'.os = b.os) (e2 : b'.tape = b.tape) (e3 : b'.output = b.output) (e4 : b'.heap = b.heap) : Fr S a b' :=
  ⟨e1.trans h.os, e2.trans h.tape, e3.trans h.output, by rw [e4]; exact h.size, fun k hk hs => by rw [e4]; exact h.block k hk hs⟩
/-- A string's byte. -/
def byt (s : ByteArray) (j : Nat) : Int := if h : j < s.size then ((s[j]'h).toNat : Int) else 0
theorem byt_eq (s : ByteArray) (j : Nat) (h : j < s.size) : ((s[j]'h).toNat : Int) = byt s j := by rw [byt, dif_pos h]
theorem byt_bd (s : ByteArray) (j : Nat) : 0 ≤ byt s j ∧ byt s j < 256 := by
  unfold byt
  split
  · rename_i h; have := (s[j]'h).toNat_lt; omega
  · omega
theorem bcs_byt (s : ByteArray) (k : Nat) (h : k < s.size) : (bcs s)[k]? = some (.int .u8 (byt s k)) := by rw [bcs_get s k h, byt_eq]
/-- A word. -/
def wd (s : ByteArray) (k : Nat) : Int := byt s k + byt s (k + 1) * 256 + byt s (k + 2) * 65536 + byt s (k + 3) * 16777216
/-- The instruction at a place. -/
def decI (s : ByteArray) (i : Nat) : Ins := ⟨byt s i + byt s (i + 1) * 256, byt s (i + 2), byt s (i + 3), wd s (i + 4)⟩
def decL (s : ByteArray) (n : Nat) : List Ins := (List.range n).map fun k => decI s (k * 8)
theorem decL_len (s : ByteArray) (n : Nat) : (decL s n).length = n := by simp [decL]
theorem decL_succ (s : ByteArray) (n : Nat) : decL s (n + 1) = decL s n ++ [decI s (n * 8)] := by simp [decL, List.range_succ]
theorem wd_code (s : ByteArray) (i : Nat) : wd s i % 65536 = byt s i + byt s (i + 1) * 256 := by
  have h0 := byt_bd s i
  have h1 := byt_bd s (i + 1)
  have h2 := byt_bd s (i + 2)
  have h3 := byt_bd s (i + 3)
  unfold wd
  omega
theorem wd_bd (s : ByteArray) (i : Nat) : 0 ≤ wd s i ∧ wd s i < 4294967296 := by
  have h0 := byt_bd s i
  have h1 := byt_bd s (i + 1)
  have h2 := byt_bd s (i + 2)
  have h3 := byt_bd s (i + 3)
  unfold wd
  omega
theorem byte_lt (b : UInt8) : (b.toNat : Int) < 256 := by have := b.toNat_lt; omega

set_option maxRecDepth 100000 in
set_option maxHeartbeats 1000000 in
theorem word_any (w : World) (s : ByteArray) (k : Nat) (hk : k + 4 ≤ s.size) (hs : s.size ≤ 140737488355328) :
    Calls Tryz.prog 46 #[.string s, .int .i64 k] w fun e w' => e = .returned (.int .u32 (wd s k)) ∧ ∃ n, w' = w.drewN n := by
  have h0 := byte_lt (s[k]'(by omega))
  have h1 := byte_lt (s[k+1]'(by omega))
  have h2 := byte_lt (s[k+2]'(by omega))
  have h3 := byte_lt (s[k+3]'(by omega))
  have q0 : (k : Int) < (s.size : Int) := by omega
  have q1 : (k : Int) + 1 < (s.size : Int) := by omega
  have q2 : (k : Int) + 2 < (s.size : Int) := by omega
  have q3 : (k : Int) + 3 < (s.size : Int) := by omega
  have z1 : (0 : Int) ≤ (k : Int) + 1 := by omega
  have z2 : (0 : Int) ≤ (k : Int) + 2 := by omega
  have z3 : (0 : Int) ≤ (k : Int) + 3 := by omega
  have e1 : ((k : Int) + 1).toNat = k + 1 := by omega
  have e2 : ((k : Int) + 2).toNat = k + 2 := by omega
  have e3 : ((k : Int) + 3).toNat = k + 3 := by omega
  have w1 : IntKind.i64.wrap ((k : Int) + 1) = (k : Int) + 1 := by simp [IntKind.wrap_i64]; omega
  have w2 : IntKind.i64.wrap ((k : Int) + 2) = (k : Int) + 2 := by simp [IntKind.wrap_i64]; omega
  have w3 : IntKind.i64.wrap ((k : Int) + 3) = (k : Int) + 3 := by simp [IntKind.wrap_i64]; omega
  go_enter Tryz.func46, Tryz.ntmps46
  go_wp2_with fail
  go_quiet (fail)
  go_wp2
  go_ret
  refine ⟨?_, _, rfl⟩
  simp only [wd, byt, dif_pos (show k < s.size by omega), dif_pos (show k + 1 < s.size by omega), dif_pos (show k + 2 < s.size by omega), dif_pos (show k + 3 < s.size by omega)]
  rfl


theorem rDecode_bad (w : World) (s : ByteArray) (hs : s.size ≤ 140737488355328) (h : s.size % 8 ≠ 0 ∨ s.size = 0 ∨ 32768 < s.size) :
    Calls Tryz.prog 24 #[.string s] w fun e w' => e = .returned (.tuple #[.slice none 0 0, .int .i64 1]) ∧ w' = w := by
  by_cases h1 : s.size % 8 = 0
  · by_cases h2 : s.size = 0
    · have b1 : (s.size % 8 == 0) = true := by simp [h1]
      have b2 : (s.size == 0) = true := by simp [h2]
      go_enter Tryz.func24, Tryz.ntmps24
      go_wp2
      go_ret2
      exact ⟨rfl, rfl⟩
    · have h3 : 32768 < s.size := by omega
      have h0 : 0 < s.size := by omega
      have e0 : ((s.size : Int) == 0) = false := beq_eq_false_iff_ne.2 (by omega)
      have e1 : ((s.size : Int) % 8 != 0) = false := by simp; omega
      clear h h2
      go_enter Tryz.func24, Tryz.ntmps24
      go_wp2
      go_ret2
      exact ⟨rfl, rfl⟩
  · have e1 : ((s.size : Int) % 8 != 0) = true := by rw [bne_iff_ne]; omega
    clear h
    go_enter Tryz.func24, Tryz.ntmps24
    go_wp2
    go_ret2
    exact ⟨rfl, rfl⟩

theorem word_at (w : World) (s : ByteArray) (k : Nat) (a : Int) (ha : a = (k : Int)) (hk : k + 4 ≤ s.size) (hs : s.size ≤ 140737488355328) :
    Calls Tryz.prog 46 #[.string s, .int .i64 a] w fun e w' => e = .returned (.int .u32 (wd s k)) ∧ ∃ n, w' = w.drewN n := by
  subst ha; exact word_any w s k hk hs

set_option maxRecDepth 100000 in
set_option maxHeartbeats 4000000 in
theorem rDecode_ok (w : World) (s : ByteArray) (n : Nat) (hn : s.size = n * 8) (h0 : 0 < n) (hs : n ≤ 4096) :
    Calls Tryz.prog 24 #[.string s] w fun e w' => ∃ a c, e = .returned (.tuple #[.slice a n c, .int .i64 0]) ∧
      Own w' 29 4 a n c (flat (decL s n)) ∧ (∀ x, bk (.slice a n c) x → w.heap.size ≤ x) ∧ Fr nob w w' := by
  have e0 : ((s.size : Int) == 0) = false := beq_eq_false_iff_ne.2 (by omega)
  have e1 : ((s.size : Int) % 8 != 0) = false := by simp; omega
  have e2 : ¬ (32768 : Int) < (s.size : Int) := by omega
  have hsz : s.size ≤ 32768 := by omega
  have HN := hide hn
  clear hn
  obtain ⟨i0, hi, hz0, hz1, hz2⟩ := info_parts info_insn
  go_enter Tryz.func24, Tryz.ntmps24
  go_wp2_with fail
  go_loopw [4, 5] (fun l i wr => ∃ (k j : Nat) (a : Option Addr) (c : Nat), k ≤ n ∧ Hid (j = k * 8) ∧ i = .int .i64 j ∧ l = .slice a k c ∧ (∀ x, bk (.slice a k c) x → w.heap.size ≤ x) ∧ Own wr 29 4 a k c (flat (decL s k)) ∧ Fr nob w wr) (fun _ i _ => s.size - (intOf i).toNat)
  case atStart => exact ⟨0, 0, none, 0, by omega, rfl, rfl, rfl, fun x hx => by simp [bk, Value.ownBlock] at hx, World.ownsRow_nil _ _ _ _, Fr.refl _ _⟩
  case round =>
    obtain ⟨k, j, a, c, hk, HJ, rfl, rfl, hg, o, f⟩ := hrel
    by_cases h1 : k < n
    · have hj : j + 8 ≤ s.size := by have := HN.out; have := HJ.out; omega
      have hlt : (j : Int) < (s.size : Int) := by omega
      go_wp2_with fail
      refine (word_at _ s j _ rfl (by omega) (by omega)).mono ?_
      rintro e w1 ⟨rfl, n1, rfl⟩
      have q2 : (j : Int) + 2 < (s.size : Int) := by omega
      have q3 : (j : Int) + 3 < (s.size : Int) := by omega
      have z2 : (0 : Int) ≤ (j : Int) + 2 := by omega
      have z3 : (0 : Int) ≤ (j : Int) + 3 := by omega
      have t2 : ((j : Int) + 2).toNat = j + 2 := by omega
      have t3 : ((j : Int) + 3).toNat = j + 3 := by omega
      have ww2 : IntKind.i64.wrap ((j : Int) + 2) = (j : Int) + 2 := by simp [IntKind.wrap_i64]; omega
      have ww3 : IntKind.i64.wrap ((j : Int) + 3) = (j : Int) + 3 := by simp [IntKind.wrap_i64]; omega
      have ww4 : IntKind.i64.wrap ((j : Int) + 4) = (j : Int) + 4 := by simp [IntKind.wrap_i64]; omega
      go_wp2_with fail
      have hcs : [Value.int .u16 (wd s j % 65536), .int .u8 ((s[j + 2]'(by omega)).toNat : Int), .int .u8 ((s[j + 3]'(by omega)).toNat : Int), .int .u32 (wd s (j + 4))] = (decI s j).cs := by
        rw [byt_eq, byt_eq, wd_code]; rfl
      have HC := hide hcs
      clear hcs
      have hu16 : IntKind.u16.wrap (wd s j) = wd s j % 65536 := by simp [IntKind.wrap, IntKind.bits, IntKind.signed]
      go_region_held3 (fun _ => True) (trivial)
        (first | (go_at_call 46; refine (word_at _ s (j + 4) _ (by omega) (by omega) (by omega)).mono ?_; rintro e w1 ⟨rfl, n2, rfl⟩) | (refine step_append_keep _ rfl _ _ 30 rfl 29 i0 _ 4 8 Tryz.underlying30 hi hz0 hz1 hz2 rfl (by decide) a k c (flat (decL s k)) rfl (by exact o.alloc _) ⟨wr.heap.size, 0, none⟩ 1 1 [Value.int .u16 (wd s j % 65536), .int .u8 ((s[j + 2]'(by omega)).toNat : Int), .int .u8 ((s[j + 3]'(by omega)).toNat : Int), .int .u32 (wd s (j + 4))] rfl rfl (by exact World.news_of_block (heap_alloc_new wr _)) (one_of _ rfl) (by decide) (by unfold maxLen; omega) (by omega) (wr.heap.size + 1) (by simp) ?_; intro g2 c2 w2 o2 o3 f2 hat; have f3 : Fr nob w w2 := Fr.step (by exact (f.alloc _).like rfl rfl rfl rfl) f2 (fun x hx e => by have := hg x e; omega)))
      all_goals
        have hsz2 := f.size
        have hg2 : ∀ x, bk (.slice (some ⟨g2, 0, none⟩) (k + 1) c2) x → w.heap.size ≤ x := fun x hx => by
          simp only [bk, Value.ownBlock, Option.some.injEq] at hx
          subst hx
          rcases hat with e | e
          · exact hg _ e
          · omega
        rw [HC.out, HJ.out, ← flat_one, ← flat_append, ← decL_succ] at o2
        have HG := hide hg2
        clear HC o f hat f2 hg hg2 o3 hu16
        go_wp2
        go_roundw
      all_goals first
        | exact ⟨k + 1, j + 8, some ⟨g2, 0, none⟩, c2, by omega, show j + 8 = (k + 1) * 8 by have := HJ.out; omega, by go_num, rfl, HG, o2, f3⟩
        | (simp [intOf]; omega)
    · have hkn : k = n := by omega
      subst hkn
      have hj : ¬ (j : Int) < (s.size : Int) := by have := HN.out; have := HJ.out; omega
      go_wp2
      go_ret2
      exact ⟨a, c, rfl, o, hg, f⟩
#print axioms rDecode_ok
end Go.Proofs.YtjgcfffepkmojaaGreat


namespace Go.Proofs.YtjgcfffepkmojaaGreat
open Go.RowKit
set_option linter.unusedVariables false

set_option maxRecDepth 100000 in
set_option maxHeartbeats 20000000 in
theorem readInsn_any (w : World) (g off n cap : Nat) (b0 b1 b2 b3 b4 b5 b6 b7 : Int) (hn : 8 ≤ n)
    (c0 : w.cell? ⟨g, off, none⟩ = some (.int .u8 b0)) (c1 : w.cell? ⟨g, off + 1, none⟩ = some (.int .u8 b1)) (c2 : w.cell? ⟨g, off + 2, none⟩ = some (.int .u8 b2)) (c3 : w.cell? ⟨g, off + 3, none⟩ = some (.int .u8 b3))
    (c4 : w.cell? ⟨g, off + 4, none⟩ = some (.int .u8 b4)) (c5 : w.cell? ⟨g, off + 5, none⟩ = some (.int .u8 b5)) (c6 : w.cell? ⟨g, off + 6, none⟩ = some (.int .u8 b6)) (c7 : w.cell? ⟨g, off + 7, none⟩ = some (.int .u8 b7))
    (p0 : 0 ≤ b0 ∧ b0 < 256) (p1 : 0 ≤ b1 ∧ b1 < 256) (p2 : 0 ≤ b2 ∧ b2 < 256) (p3 : 0 ≤ b3 ∧ b3 < 256) (p4 : 0 ≤ b4 ∧ b4 < 256) (p5 : 0 ≤ b5 ∧ b5 < 256) (p6 : 0 ≤ b6 ∧ b6 < 256) (p7 : 0 ≤ b7 ∧ b7 < 256) :
    Calls Tryz.prog 60 #[.slice (some ⟨g, off, none⟩) n cap] w fun e w' => e = .returned (.agg #[.int .u16 (b0 + b1 * 256), .int .u8 b2, .int .u8 b3, .int .u32 (b4 + b5 * 256 + b6 * 65536 + b7 * 16777216)]) ∧ Fr nob w w' := by
  have hg : g < w.heap.size := World.block_lt_of_cell? w _ c0
  have q0 : 0 < n := by omega
  have q1 : (1 : Int) < (n : Int) := by omega
  have q2 : (2 : Int) < (n : Int) := by omega
  have q3 : (3 : Int) < (n : Int) := by omega
  have q4 : (4 : Int) < (n : Int) := by omega
  have q5 : (5 : Int) < (n : Int) := by omega
  have q6 : (6 : Int) < (n : Int) := by omega
  have q7 : (7 : Int) < (n : Int) := by omega
  have a0 : IntKind.u16.wrap b0 = b0 := u16_wrap_id _ (by omega) (by omega)
  have a1 : IntKind.u16.wrap b1 = b1 := u16_wrap_id _ (by omega) (by omega)
  have a2 : IntKind.u16.wrap (b1 * 256) = b1 * 256 := u16_wrap_id _ (by omega) (by omega)
  have a3 : bits .or .u16 b0 (b1 * 256) = b0 + b1 * 256 := u16_or8 _ _ (by omega) (by omega) (by omega) (by omega) (by omega)
  have d4 : IntKind.u32.wrap b4 = b4 := u32_wrap_id _ (by omega) (by omega)
  have d5 : IntKind.u32.wrap b5 = b5 := u32_wrap_id _ (by omega) (by omega)
  have d6 : IntKind.u32.wrap b6 = b6 := u32_wrap_id _ (by omega) (by omega)
  have d7 : IntKind.u32.wrap b7 = b7 := u32_wrap_id _ (by omega) (by omega)
  have k5 : IntKind.u32.wrap (b5 * 256) = b5 * 256 := u32_wrap_id _ (by omega) (by omega)
  have k6 : IntKind.u32.wrap (b6 * 65536) = b6 * 65536 := u32_wrap_id _ (by omega) (by omega)
  have k7 : IntKind.u32.wrap (b7 * 16777216) = b7 * 16777216 := u32_wrap_id _ (by omega) (by omega)
  have j5 : bits .or .u32 b4 (b5 * 256) = b4 + b5 * 256 := u32_or8 _ _ (by omega) (by omega) (by omega) (by omega) (by omega)
  have j6 : bits .or .u32 (b4 + b5 * 256) (b6 * 65536) = b4 + b5 * 256 + b6 * 65536 := u32_or16 _ _ (by omega) (by omega) (by omega) (by omega) (by omega)
  have j7 : bits .or .u32 (b4 + b5 * 256 + b6 * 65536) (b7 * 16777216) = b4 + b5 * 256 + b6 * 65536 + b7 * 16777216 := u32_or24 _ _ (by omega) (by omega) (by omega) (by omega) (by omega)
  clear p0 p1 p2 p3 p4 p5 p6 p7
  go_enter Tryz.func60, Tryz.ntmps60
  go_wp2_with fail
  go_region_held3 (fun w' => w'.cell? ⟨g, off, none⟩ = some (.int .u8 b0) ∧ w'.cell? ⟨g, off + 1, none⟩ = some (.int .u8 b1) ∧ w'.cell? ⟨g, off + 2, none⟩ = some (.int .u8 b2) ∧ w'.cell? ⟨g, off + 3, none⟩ = some (.int .u8 b3) ∧ w'.cell? ⟨g, off + 4, none⟩ = some (.int .u8 b4) ∧ w'.cell? ⟨g, off + 5, none⟩ = some (.int .u8 b5) ∧ w'.cell? ⟨g, off + 6, none⟩ = some (.int .u8 b6) ∧ w'.cell? ⟨g, off + 7, none⟩ = some (.int .u8 b7)) (go_keep) (fail)
  go_wp2
  exact bodyPost_ret (v := .agg #[.int .u16 (b0 + b1 * 256), .int .u8 b2, .int .u8 b3, .int .u32 (b4 + b5 * 256 + b6 * 65536 + b7 * 16777216)]) (by simp [results, Tryz.results60, go_sem]) rfl ⟨rfl, ((Fr.refl _ w).alloc _).drew⟩
#print axioms readInsn_any
end Go.Proofs.YtjgcfffepkmojaaGreat

namespace Go.Proofs.YtjgcfffepkmojaaGreat
open Go.RowKit
set_option linter.unusedVariables false

theorem wDecode_bad (w : World) (ao : Option Addr) (n cap : Nat) (hs : n ≤ 140737488355328) (h : n % 8 ≠ 0 ∨ n = 0 ∨ 32768 < n) :
    Calls Tryz.prog 45 #[.slice ao n cap] w fun e w' => e = .returned (.tuple #[.slice none 0 0, .int .i64 1]) ∧ w' = w := by
  by_cases h1 : n % 8 = 0
  · have e1 : ((n : Int) % 8 != 0) = false := by simp; omega
    by_cases h2 : n = 0
    · subst h2
      clear h
      go_enter Tryz.func45, Tryz.ntmps45
      go_wp2
      go_ret2
      exact ⟨rfl, rfl⟩
    · have h3 : 32768 < n := by omega
      have e0 : ((n : Int) / 8 == 0) = false := beq_eq_false_iff_ne.2 (by omega)
      clear h h2
      go_enter Tryz.func45, Tryz.ntmps45
      go_wp2
      go_ret2
      exact ⟨rfl, rfl⟩
  · have e1 : ((n : Int) % 8 != 0) = true := by rw [bne_iff_ne]; omega
    clear h
    go_enter Tryz.func45, Tryz.ntmps45
    go_wp2
    go_ret2
    exact ⟨rfl, rfl⟩

set_option maxRecDepth 100000 in
set_option maxHeartbeats 2000000 in
theorem wDecode_ok (w : World) (g off cap : Nat) (s : ByteArray) (n : Nat) (hn : s.size = n * 8) (h0 : 0 < n) (hs : n ≤ 4096) (hc : s.size ≤ cap) (hseg : Seg w g off (bcs s)) :
    Calls Tryz.prog 45 #[.slice (some ⟨g, off, none⟩) s.size cap] w fun e w' => e = .returned (.tuple #[.slice (some ⟨w.heap.size, 0, none⟩) n n, .int .i64 0]) ∧
      Own w' 29 4 (some ⟨w.heap.size, 0, none⟩) n n (flat (decL s n)) ∧ Fr nob w w' := by
  have e1 : ((s.size : Int) % 8 != 0) = false := by simp; omega
  have e3 : ((s.size : Int) / 8) = (n : Int) := by omega
  have e0 : ((n : Int) == 0) = false := beq_eq_false_iff_ne.2 (by omega)
  have HN := hide hn
  have hsz : s.size ≤ 32768 := by omega
  clear hn
  obtain ⟨i0, hi, hz0, hz1, hz2⟩ := info_parts info_insn
  go_enter Tryz.func45, Tryz.ntmps45
  go_wp2_with (at_make; refine wpList_make_full _ rfl _ _ 30 rfl 0 29 i0 _ 4 Tryz.underlying30 hi hz0 hz1 _ _ _ _ n rfl rfl (by omega) (by omega) ?b1 ?b2 ?b3 ?_)
  case b1 => rw [hz2]; omega
  case b2 => unfold maxLen; omega
  case b3 => omega
  intro w1 o1 g1
  have f1 : Fr nob w w1 := (Fr.refl _ w).grown g1 (fun k _ h => by cases h)
  have hlt1 : w.heap.size < w1.heap.size := own_lt o1 (by simp [bk, Value.ownBlock])
  obtain ⟨Z, hZ⟩ : ∃ Z, Z = (madeCells #[Value.int .u16 0, Value.int .u8 0, Value.int .u8 0, Value.int .u32 0] (n * 4)).toList := ⟨_, rfl⟩
  have o1' : Own w1 29 4 (some ⟨w.heap.size, 0, none⟩) n n Z := by rw [hZ]; exact o1
  have HZ := hide hZ
  clear hZ o1 g1
  go_wp2_with fail
  go_loopw [26] (fun i wr => ∃ k : Nat, k ≤ n ∧ i = .int .i64 k ∧ Own wr 29 4 (some ⟨w.heap.size, 0, none⟩) n n (flat (decL s k) ++ Z.drop (k * 4)) ∧ Fr nob w wr) (fun i _ => n - (intOf i).toNat)
  case atStart => exact ⟨0, by omega, rfl, o1', f1⟩
  case round =>
    clear o1' f1
    obtain ⟨k, hk, rfl, o, f⟩ := hrel
    by_cases h1 : k < n
    · have hk8 : k * 8 + 8 ≤ s.size := by have := HN.out; omega
      have hk8' : (k : Int) * 8 + 8 ≤ (s.size : Int) := by omega
      have hl : (flat (decL s k) ++ Z.drop (k * 4)).length = n * 4 := own_len o
      have hfl : (flat (decL s k)).length = k * 4 := by rw [flat_len, decL_len]
      have hs8 : ∀ j, j < 8 → wr.cell? ⟨g, off + k * 8 + j, none⟩ = some (.int .u8 (byt s (k * 8 + j))) := fun j hj => by
        rw [Nat.add_assoc]; exact (hseg.fr f (fun h => h)) (k * 8 + j) _ (bcs_byt s _ (by omega))
      go_wp2_with fail
      refine (readInsn_any wr g (off + k * 8) _ _ _ _ _ _ _ _ _ _ (by omega) (hs8 0 (by decide)) (hs8 1 (by decide)) (hs8 2 (by decide)) (hs8 3 (by decide)) (hs8 4 (by decide)) (hs8 5 (by decide)) (hs8 6 (by decide)) (hs8 7 (by decide)) (byt_bd _ _) (byt_bd _ _) (byt_bd _ _) (byt_bd _ _) (byt_bd _ _) (byt_bd _ _) (byt_bd _ _) (byt_bd _ _)).mono ?_
      rintro e w2 ⟨rfl, f2⟩
      have o2 := own_fr o f2 (fun _ _ h => h)
      have hfz : ∀ z, w2.frozen? ⟨w.heap.size, z, none⟩ = false := fun z => o2.frozenAt z
      obtain ⟨u0, hu0⟩ : ∃ u, w2.cell? ⟨w.heap.size, k * 4, none⟩ = some u := ⟨_, own_cell o2 _ (by omega)⟩
      obtain ⟨u1, hu1⟩ : ∃ u, w2.cell? ⟨w.heap.size, k * 4 + 1, none⟩ = some u := ⟨_, own_cell o2 _ (by omega)⟩
      obtain ⟨u2, hu2⟩ : ∃ u, w2.cell? ⟨w.heap.size, k * 4 + 2, none⟩ = some u := ⟨_, own_cell o2 _ (by omega)⟩
      obtain ⟨u3, hu3⟩ : ∃ u, w2.cell? ⟨w.heap.size, k * 4 + 3, none⟩ = some u := ⟨_, own_cell o2 _ (by omega)⟩
      obtain ⟨x, hx⟩ : ∃ x, x = decI s (k * 8) := ⟨_, rfl⟩
      have o3 := own_set4 (p := k * 4) (q := k * 4 + 1) (r := k * 4 + 2) (t := k * 4 + 3) o2 (by simp only [List.length_append] at hl; omega) (by omega) (by omega) (by omega) (by omega) (.int .u16 x.code) (.int .u8 x.jt) (.int .u8 x.jf) (.int .u32 x.k)
      rw [show [Value.int .u16 x.code, Value.int .u8 x.jt, Value.int .u8 x.jf, Value.int .u32 x.k] = flat [x] from by rw [flat_one]; rfl, ← flat_append, List.drop_drop] at o3
      have o4 : flat (decL s k ++ [x]) ++ List.drop (k * 4 + 4) Z = flat (decL s (k + 1)) ++ List.drop ((k + 1) * 4) Z := by rw [decL_succ, hx, Nat.succ_mul]
      rw [o4] at o3
      have f3 := ((((f.trans f2).setCell (p := ⟨w.heap.size, k * 4, none⟩) (fun h => absurd h (Nat.lt_irrefl _)) (.int .u16 x.code)).setCell (p := ⟨w.heap.size, k * 4 + 1, none⟩) (fun h => absurd h (Nat.lt_irrefl _)) (.int .u8 x.jt)).setCell (p := ⟨w.heap.size, k * 4 + 2, none⟩) (fun h => absurd h (Nat.lt_irrefl _)) (.int .u8 x.jf)).setCell (p := ⟨w.heap.size, k * 4 + 3, none⟩) (fun h => absurd h (Nat.lt_irrefl _)) (.int .u32 x.k)
      subst hx
      clear o o2 o4 f f2 hs8 hl hfl
      go_wp2
      go_roundw
      case rel => exact ⟨k + 1, by omega, by go_num, o3, f3⟩
      case measure => simp [intOf]; omega
    · have hkn : k = n := by omega
      subst hkn
      have hZl : Z.length ≤ k * 4 := by have := own_len o; simp only [List.length_append, flat_len, decL_len, List.length_drop] at this; rw [HZ.out]; simp [madeCells]
      rw [List.drop_of_length_le hZl, List.append_nil] at o
      go_wp2
      go_ret2
      exact ⟨rfl, o, f⟩

theorem sDecode_bad (w : World) (ao : Option Addr) (n cap : Nat) (hs : n ≤ 140737488355328) (h : n % 8 ≠ 0 ∨ n = 0 ∨ 32768 < n) :
    Calls Tryz.prog 23 #[.slice ao n cap] w fun e w' => e = .returned (.tuple #[.slice none 0 0, .int .i64 1]) ∧ w' = w := by
  go_enter Tryz.func23, Tryz.ntmps23
  go_wp2_with fail
  refine (wDecode_bad _ ao n cap hs h).mono ?_
  rintro e w1 ⟨rfl, rfl⟩
  go_wp2
  go_ret2
  exact ⟨rfl, rfl⟩
theorem sDecode_ok (w : World) (g off cap : Nat) (s : ByteArray) (n : Nat) (hn : s.size = n * 8) (h0 : 0 < n) (hs : n ≤ 4096) (hc : s.size ≤ cap) (hseg : Seg w g off (bcs s)) :
    Calls Tryz.prog 23 #[.slice (some ⟨g, off, none⟩) s.size cap] w fun e w' => e = .returned (.tuple #[.slice (some ⟨w.heap.size, 0, none⟩) n n, .int .i64 0]) ∧
      Own w' 29 4 (some ⟨w.heap.size, 0, none⟩) n n (flat (decL s n)) ∧ Fr nob w w' := by
  have HN := hide hn
  clear hn
  go_enter Tryz.func23, Tryz.ntmps23
  go_wp2_with fail
  refine (wDecode_ok _ g off cap s n HN.out h0 hs hc hseg).mono ?_
  rintro e w1 ⟨rfl, o, f⟩
  go_wp2
  go_ret2
  exact ⟨rfl, o, f⟩
#print axioms sDecode_ok
end Go.Proofs.YtjgcfffepkmojaaGreat
