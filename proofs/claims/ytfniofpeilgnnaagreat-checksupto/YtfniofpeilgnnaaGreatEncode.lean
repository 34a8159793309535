import Derived.Test.YtfniofpeilgnnaaGreatStill
import Derived.Laws.BytesString
namespace Go.Proofs.YtfniofpeilgnnaaGreat
open Go.RowKit
set_option linter.unusedVariables false

/-- An instruction's bytes. -/
def Ins.bs (x : Ins) : List Int := [x.code % 256, x.code / 256, x.jt, x.jf, x.k % 256, x.k / 256 % 256, x.k / 65536 % 256, x.k / 16777216]
def enc : List Ins → List Int
  | [] => []
  | x :: l => x.bs ++ enc l
theorem enc_len (l : List Ins) : (enc l).length = l.length * 8 := by
  induction l with
  | nil => rfl
  | cons x l ih => simp [enc, Ins.bs, ih]; omega
theorem enc_append (l m : List Ins) : enc (l ++ m) = enc l ++ enc m := by
  induction l with
  | nil => rfl
  | cons x l ih => simp [enc, ih]
theorem enc_snoc (l : List Ins) (k : Nat) (h : k < l.length) : enc (l.take (k + 1)) = enc (l.take k) ++ (l[k]).bs := by
  rw [List.take_succ_eq_append_getElem h, enc_append]; simp [enc]
def u8s (l : List Int) : List Value := l.map (Value.int .u8)
theorem u8s_one (l : List Int) : ∀ u ∈ u8s l, u.oneCell' = true := by
  intro u hu
  simp only [u8s, List.mem_map] at hu
  obtain ⟨b, _, rfl⟩ := hu
  rfl
def toBA (ns : List Int) : ByteArray := ns.foldl (fun r n => r.push (UInt8.ofNat n.toNat)) ByteArray.empty
theorem size_foldl_push (ns : List Int) (a : ByteArray) : (ns.foldl (fun r n => r.push (UInt8.ofNat n.toNat)) a).size = a.size + ns.length := by
  induction ns generalizing a with
  | nil => simp
  | cons n ns ih =>
    simp only [List.foldl_cons, ih, List.length_cons]
    rw [show (a.push (UInt8.ofNat n.toNat)).size = a.size + 1 from Array.size_push _]
    omega
theorem toBA_size (ns : List Int) : (toBA ns).size = ns.length := by
  rw [toBA, size_foldl_push]; simp

theorem two_new (w : World) (a b : Obj) : ((w.alloc a).alloc b).heap[w.heap.size + 1]? = some b := by
  have := heap_alloc_new (w.alloc a) b
  rwa [World.size_alloc] at this
theorem u8s_append (l m : List Int) : u8s (l ++ m) = u8s l ++ u8s m := by simp [u8s]

/-- string(b), b of the call's own. -/
theorem conv_own (w : World) (ao : Option Addr) (n cap : Nat) (ns : List Int) (h : Own w 5 1 ao n cap (u8s ns)) :
    (convert 32 9 (.slice ao n cap)).run Tryz.prog w = .ok (.string (toBA ns)) w := by
  rw [run_convert_bytes_string w 32 9 5 ao n cap Tryz.underlying32 Tryz.underlying5 Tryz.underlying9]
  have hl : ns.length = n := by have := h.1; simpa [u8s] using this
  rcases h.2 with ⟨hv, hn⟩ | ⟨g, cap', cur, hv, _, hg, _⟩
  · simp only [Value.slice.injEq] at hv
    obtain ⟨rfl, rfl, rfl⟩ := hv
    have : ns = [] := List.eq_nil_of_length_eq_zero hl
    subst this
    rfl
  · simp only [Value.slice.injEq, true_and] at hv
    obtain ⟨rfl, rfl⟩ := hv
    refine run_bytesToString w ⟨g, 0, none⟩ n cap ns ?_
    have := run_loadCells_list (P := Tryz.prog) w ⟨g, 0, none⟩ (u8s ns) (fun j v hj => by rw [Addr.add_lit, Nat.zero_add]; exact own_get h hj)
    rw [show (u8s ns).length = n by simp [u8s, hl]] at this
    exact this

set_option maxRecDepth 100000 in
set_option maxHeartbeats 1000000 in
theorem wEncode_any (w : World) (ao : Option Addr) (cap : Nat) (l : List Ins) (hs : l.length ≤ 10000000) (hv : View w ao (flat l)) (hok : ∀ x ∈ l, x.ok) :
    Calls Tryz.prog 47 #[.slice ao l.length cap] w fun e w' => ∃ g c, e = .returned (.slice (some ⟨g, 0, none⟩) (l.length * 8) c) ∧
      Own w' 5 1 (some ⟨g, 0, none⟩) (l.length * 8) c (u8s (enc l)) ∧ w.heap.size ≤ g ∧ Fr nob w w' := by
  obtain ⟨i0, hi, hz0, hz1, hz2⟩ := info_parts info_u8
  go_enter Tryz.func47, Tryz.ntmps47
  go_wp2_with (at_make; refine wpList_make_own _ rfl _ _ 32 rfl 0 5 i0 (.int .u8 0) 1 Tryz.underlying32 hi hz0 hz1 _ _ _ (l.length * 8) rfl rfl (by omega) ?b1 ?b2 ?b3 ?_)
  case b1 => rw [hz2]; omega
  case b2 => unfold maxLen; omega
  case b3 => omega
  intro w1 o1 g1
  have f1 : Fr nob w w1 := (Fr.refl _ w).grown g1 (fun k _ h => by cases h)
  clear g1
  go_wp2_with fail
  go_loopw [3, 12] (fun b i wr => ∃ (k : Nat) (g c : Nat), k ≤ l.length ∧ i = .int .i64 k ∧ b = .slice (some ⟨g, 0, none⟩) (k * 8) c ∧ w.heap.size ≤ g ∧ Own wr 5 1 (some ⟨g, 0, none⟩) (k * 8) c (u8s (enc (l.take k))) ∧ Fr nob w wr) (fun _ i _ => l.length - (intOf i).toNat)
  case atStart => exact ⟨0, w.heap.size, l.length * 8, by omega, rfl, rfl, Nat.le_refl _, o1, f1⟩
  case round =>
    clear o1 f1
    obtain ⟨k, g, c, hk, rfl, rfl, hg, o, f⟩ := hrel
    by_cases h1 : k < l.length
    · have hne : flat l ≠ [] := by intro e; have := flat_len l; rw [e] at this; simp at this; omega
      obtain ⟨b, off, rfl, hseg⟩ := (hv.fr0 f).some hne
      obtain ⟨v0, v1, v2, v3⟩ := hseg.ins k h1
      obtain ⟨⟨p1, p2⟩, ⟨p3, p4⟩, ⟨p5, p6⟩, ⟨p7, p8⟩⟩ := hok l[k] (List.getElem_mem h1)
      have hb : b < wr.heap.size := World.block_lt_of_cell? wr _ v0
      clear hseg
      go_wp2_with (at_builtin; refine wpList_append_keep _ rfl _ _ 32 rfl 5 i0 (.int .u8 0) 1 1 Tryz.underlying32 hi hz0 hz1 hz2 rfl (by decide) _ _ _ _ rfl ((o.alloc _).alloc _) ⟨wr.heap.size + 1, 0, none⟩ 8 8 (u8s (l[k]).bs) rfl rfl ?c1 ?c2 (by decide) ?c3 ?c4 (wr.heap.size + 2) (by simp) ?_)
      case c1 => exact World.news_of_block (two_new wr _ _)
      case c2 => exact u8s_one _
      case c3 => unfold maxLen; omega
      case c4 => omega
      intro g2 c2 w2 o2 _ f2 hat
      have f3 : Fr nob w w2 := ((f.alloc _).alloc _).step f2 (fun j hj e => by simp only [bk, Value.ownBlock, Option.some.injEq] at e; omega)
      have hsz := f.size
      have hg2 : w.heap.size ≤ g2 := by
        rcases hat with e | e
        · simp only [bk, Value.ownBlock, Option.some.injEq] at e; omega
        · omega
      rw [← u8s_append, ← enc_snoc l k h1] at o2
      clear o f hat hsz f2 hb v0 v1 v2 v3 p1 p2 p3 p4 p5 p6 p7 p8
      go_wp2
      go_roundw
      case rel => exact ⟨k + 1, g2, c2, by omega, by go_num, by rw [Nat.succ_mul], hg2, by rw [Nat.succ_mul]; exact o2, f3⟩
      case measure => simp [intOf]; omega
    · have hkl : k = l.length := by omega
      subst hkl
      rw [List.take_length] at o
      go_wp2
      go_ret
      exact ⟨g, c, rfl, o, hg, f⟩

theorem sEncode_any (w : World) (ao : Option Addr) (cap : Nat) (l : List Ins) (hs : l.length ≤ 10000000) (hv : View w ao (flat l)) (hok : ∀ x ∈ l, x.ok) :
    Calls Tryz.prog 27 #[.slice ao l.length cap] w fun e w' => ∃ g c, e = .returned (.slice (some ⟨g, 0, none⟩) (l.length * 8) c) ∧
      Own w' 5 1 (some ⟨g, 0, none⟩) (l.length * 8) c (u8s (enc l)) ∧ w.heap.size ≤ g ∧ Fr nob w w' := by
  go_enter Tryz.func27, Tryz.ntmps27
  go_wp2_with fail
  refine (wEncode_any _ ao cap l hs hv hok).mono ?_
  rintro e w1 ⟨g, c, rfl, o, hg, f⟩
  go_wp2
  go_ret
  exact ⟨g, c, rfl, o, hg, f⟩

set_option maxRecDepth 100000 in
set_option maxHeartbeats 1000000 in
theorem rEncode_any (w : World) (ao : Option Addr) (cap : Nat) (l : List Ins) (hs : l.length ≤ 10000000) (hv : View w ao (flat l)) (hok : ∀ x ∈ l, x.ok) :
    Calls Tryz.prog 9 #[.slice ao l.length cap] w fun e w' => e = .returned (.string (toBA (enc l))) ∧ Fr nob w w' := by
  obtain ⟨i0, hi, hz0, hz1, hz2⟩ := info_parts info_u8
  go_enter Tryz.func9, Tryz.ntmps9
  go_wp2_with fail
  go_loopw [3, 4] (fun b i wr => ∃ (k : Nat) (a : Option Addr) (c : Nat), k ≤ l.length ∧ i = .int .i64 k ∧ b = .slice a (k * 8) c ∧ (∀ x, bk (.slice a (k * 8) c) x → w.heap.size ≤ x) ∧ Own wr 5 1 a (k * 8) c (u8s (enc (l.take k))) ∧ Fr nob w wr) (fun _ i _ => l.length - (intOf i).toNat)
  case atStart => exact ⟨0, none, 0, by omega, rfl, rfl, fun x hx => by simp [bk, Value.ownBlock] at hx, World.ownsRow_nil _ _ _ _, Fr.refl _ _⟩
  case round =>
    obtain ⟨k, a, c, hk, rfl, rfl, hg, o, f⟩ := hrel
    by_cases h1 : k < l.length
    · have hne : flat l ≠ [] := by intro e; have := flat_len l; rw [e] at this; simp at this; omega
      obtain ⟨b, off, rfl, hseg⟩ := (hv.fr0 f).some hne
      obtain ⟨v0, v1, v2, v3⟩ := hseg.ins k h1
      obtain ⟨⟨p1, p2⟩, ⟨p3, p4⟩, ⟨p5, p6⟩, ⟨p7, p8⟩⟩ := hok l[k] (List.getElem_mem h1)
      have hb : b < wr.heap.size := World.block_lt_of_cell? wr _ v0
      clear hseg
      go_wp2_with (at_builtin; refine wpList_append_keep _ rfl _ _ 32 rfl 5 i0 (.int .u8 0) 1 1 Tryz.underlying32 hi hz0 hz1 hz2 rfl (by decide) _ _ _ _ rfl ((o.alloc _).alloc _) ⟨wr.heap.size + 1, 0, none⟩ 8 8 (u8s (l[k]).bs) rfl rfl ?c1 ?c2 (by decide) ?c3 ?c4 (wr.heap.size + 2) (by simp) ?_)
      case c1 => exact World.news_of_block (two_new wr _ _)
      case c2 => exact u8s_one _
      case c3 => unfold maxLen; omega
      case c4 => omega
      intro g2 c2 w2 o2 _ f2 hat
      have f3 : Fr nob w w2 := ((f.alloc _).alloc _).step f2 (fun j hj e => by have := hg j e; omega)
      have hsz := f.size
      have hg2 : ∀ x, bk (.slice (some ⟨g2, 0, none⟩) (k * 8 + 8) c2) x → w.heap.size ≤ x := fun x hx => by
        simp only [bk, Value.ownBlock, Option.some.injEq] at hx
        subst hx
        rcases hat with e | e
        · exact hg _ e
        · omega
      rw [← u8s_append, ← enc_snoc l k h1] at o2
      have HG := hide hg2
      clear o f hat hsz f2 hb v0 v1 v2 v3 p1 p2 p3 p4 p5 p6 p7 p8 hg hg2
      go_wp2
      go_roundw
      case rel => exact ⟨k + 1, some ⟨g2, 0, none⟩, c2, by omega, by go_num, by rw [Nat.succ_mul], by rw [Nat.succ_mul]; exact HG, by rw [Nat.succ_mul]; exact o2, f3⟩
      case measure => simp [intOf]; omega
    · have hkl : k = l.length := by omega
      subst hkl
      rw [List.take_length] at o
      have hcv := conv_own wr a (l.length * 8) c (enc l) o
      go_wp2
      go_ret
      exact ⟨rfl, f⟩
#print axioms rEncode_any
end Go.Proofs.YtfniofpeilgnnaaGreat
