import Derived.Test.YtjgcfffepkmojaaSInst
import Derived.Test.YtjgcfffepkmojaaKEnds
namespace Go.Proofs.Ytjgcfffepkmojaa
open Go.RowKit
set_option linter.unusedVariables false

/-! ### The same, of whatever came in -/
set_option maxRecDepth 100000 in
set_option maxHeartbeats 1000000 in
theorem wEncode_big (w : World) (ao : Option Addr) (cap : Nat) (l : List Ins) (hs : l.length ≤ 17592186043904) (hv : View w ao (flat l)) (hok : ∀ x ∈ l, x.ok) :
    Calls Try.prog 28 #[.slice ao l.length cap] w fun e w' => ∃ g c, e = .returned (.slice (some ⟨g, 0, none⟩) (l.length * 8) c) ∧
      Own w' 5 1 (some ⟨g, 0, none⟩) (l.length * 8) c (u8s (enc l)) ∧ w.heap.size ≤ g ∧ Fr nob w w' := by
  obtain ⟨i0, hi, hz0, hz1, hz2⟩ := info_parts info_u8
  go_enter Try.func28, Try.ntmps28
  go_wp2_with (at_make; refine wpList_make_own _ rfl _ _ 59 rfl 0 5 i0 (.int .u8 0) 1 Try.underlying59 hi hz0 hz1 _ _ _ (l.length * 8) rfl rfl (by omega) ?b1 ?b2 ?b3 ?_)
  case b1 => rw [hz2]; omega
  case b2 => unfold maxLen; omega
  case b3 => omega
  intro w1 o1 g1
  have f1 : Fr nob w w1 := (Fr.refl _ w).grown g1 (fun k _ h => by cases h)
  clear g1
  go_wp2_with fail
  go_loopw [3, 12] (fun b i wr => ∃ (k : Nat) (g c : Nat), k ≤ l.length ∧ i = .int .i64 k ∧ b = .slice (some ⟨g, 0, none⟩) (k * 8) c ∧ w.heap.size ≤ g ∧ Own wr 5 1 (some ⟨g, 0, none⟩) (k * 8) c (u8s (enc (l.take k))) ∧ Fr nob w wr) (fun _ i _ => l.length - (intOf i).toNat)
  case atStart => exact ⟨0, w.heap.size, l.length * 8, by omega, rfl, rfl, Nat.le_refl _, o1, f1⟩
  case round =>
    clear o1 f1
    obtain ⟨k, g, c, hk, rfl, rfl, hg, o, f⟩ := hrel
    by_cases h1 : k < l.length
    · have hne : flat l ≠ [] := by intro e; have := flat_len l; rw [e] at this; simp at this; omega
      obtain ⟨b, off, rfl, hseg⟩ := (hv.fr0 f).some hne
      obtain ⟨v0, v1, v2, v3⟩ := hseg.ins k h1
      obtain ⟨⟨p1, p2⟩, ⟨p3, p4⟩, ⟨p5, p6⟩, ⟨p7, p8⟩⟩ := hok l[k] (List.getElem_mem h1)
      have hb : b < wr.heap.size := World.block_lt_of_cell? wr _ v0
      clear hseg
      go_wp2_with (at_builtin; refine wpList_append_keep _ rfl _ _ 59 rfl 5 i0 (.int .u8 0) 1 1 Try.underlying59 hi hz0 hz1 hz2 rfl (by decide) _ _ _ _ rfl ((o.alloc _).alloc _) ⟨wr.heap.size + 1, 0, none⟩ 8 8 (u8s (l[k]).bs) rfl rfl ?c1 ?c2 (by decide) ?c3 ?c4 (wr.heap.size + 2) (by simp) ?_)
      case c1 => exact World.news_of_block (two_new wr _ _)
      case c2 => exact u8s_one _
      case c3 => unfold maxLen; omega
      case c4 => omega
      intro g2 c2 w2 o2 _ f2 hat
      have f3 : Fr nob w w2 := ((f.alloc _).alloc _).step f2 (fun j hj e => by simp only [bk, Value.ownBlock, Option.some.injEq] at e; omega)
      have hsz := f.size
      have hg2 : w.heap.size ≤ g2 := by
        rcases hat with e | e
        · simp only [bk, Value.ownBlock, Option.some.injEq] at e; omega
        · omega
      rw [← u8s_append, ← enc_snoc l k h1] at o2
      clear o f hat hsz f2 hb v0 v1 v2 v3 p1 p2 p3 p4 p5 p6 p7 p8
      go_wp2
      go_roundw
      case rel => exact ⟨k + 1, g2, c2, by omega, by go_num, by rw [Nat.succ_mul], hg2, by rw [Nat.succ_mul]; exact o2, f3⟩
      case measure => simp [intOf]; omega
    · have hkl : k = l.length := by omega
      subst hkl
      rw [List.take_length] at o
      go_wp2
      go_ret
      exact ⟨g, c, rfl, o, hg, f⟩
theorem sEncode_big (w : World) (ao : Option Addr) (cap : Nat) (l : List Ins) (hs : l.length ≤ 17592186043904) (hv : View w ao (flat l)) (hok : ∀ x ∈ l, x.ok) :
    Calls Try.prog 18 #[.slice ao l.length cap] w fun e w' => ∃ g c, e = .returned (.slice (some ⟨g, 0, none⟩) (l.length * 8) c) ∧
      Own w' 5 1 (some ⟨g, 0, none⟩) (l.length * 8) c (u8s (enc l)) ∧ w.heap.size ≤ g ∧ Fr nob w w' := by
  go_enter Try.func18, Try.ntmps18
  go_wp2_with fail
  refine (wEncode_big _ ao cap l hs hv hok).mono ?_
  rintro e w1 ⟨g, c, rfl, o, hg, f⟩
  go_wp2
  go_ret
  exact ⟨g, c, rfl, o, hg, f⟩
theorem wDecode_big (w : World) (ao : Option Addr) (n cap : Nat) (hs : n ≤ 140737488355328) (h : n % 8 ≠ 0 ∨ n = 0 ∨ 32768 < n) :
    Calls Try.prog 29 #[.slice ao n cap] w fun e w' => e = .returned (.tuple #[.slice none 0 0, .int .i64 1]) ∧ w' = w := by
  by_cases h1 : n % 8 = 0
  · have e1 : ((n : Int) % 8 != 0) = false := by simp; omega
    by_cases h2 : n = 0
    · subst h2
      clear h
      go_enter Try.func29, Try.ntmps29
      go_wp2
      go_ret2
      exact ⟨rfl, rfl⟩
    · have h3 : 32768 < n := by omega
      have e0 : ((n : Int) / 8 == 0) = false := beq_eq_false_iff_ne.2 (by omega)
      clear h h2
      go_enter Try.func29, Try.ntmps29
      go_wp2
      go_ret2
      exact ⟨rfl, rfl⟩
  · have e1 : ((n : Int) % 8 != 0) = true := by rw [bne_iff_ne]; omega
    clear h
    go_enter Try.func29, Try.ntmps29
    go_wp2
    go_ret2
    exact ⟨rfl, rfl⟩
theorem sDecode_big (w : World) (ao : Option Addr) (n cap : Nat) (hs : n ≤ 140737488355328) (h : n % 8 ≠ 0 ∨ n = 0 ∨ 32768 < n) :
    Calls Try.prog 19 #[.slice ao n cap] w fun e w' => e = .returned (.tuple #[.slice none 0 0, .int .i64 1]) ∧ w' = w := by
  go_enter Try.func19, Try.ntmps19
  go_wp2_with fail
  refine (wDecode_big _ ao n cap hs h).mono ?_
  rintro e w1 ⟨rfl, rfl⟩
  go_wp2
  go_ret2
  exact ⟨rfl, rfl⟩
set_option maxRecDepth 100000 in
theorem sJudge_big (w : World) (g : Nat) (t : TypeId) (ls : List Prg) (h : SP w g t ls) (hl : ls.length ≤ 8) (r : ByteArray) :
    Calls Try.prog 22 #[.pointer (some ⟨g, 0, none⟩), .string r] w fun e w' => e = .returned (.tuple #[.int .u32 (jdgA ls r).1, .int .i64 (jdgA ls r).2.1, .int .i64 (jdgA ls r).2.2]) ∧ Fr nob w w' := by
  by_cases h64 : r.size = 64
  · have hA : jdgA ls r = ((jdgN ls r ls.length).1, (jdgN ls r ls.length).2, 0) := by unfold jdgA; rw [if_pos h64]
    have HA := hide hA
    have HJ := hide (stJudge_any w g t ls h hl r h64)
    have hi64 : (r.size : Int) = 64 := by omega
    clear hA h64 h
    go_enter Try.func22, Try.ntmps22
    go_wp2_with fail
    refine HJ.out.mono ?_
    rintro e w' ⟨rfl, f1⟩
    have F1 := hide f1
    clear f1 HJ
    go_wp2_with fail
    go_ret3
    exact ⟨ret_vne HA.out, F1.out⟩
  · have hA : jdgA ls r = (0, 0, 10) := by unfold jdgA; rw [if_neg h64]
    have HA := hide hA
    have e1 : ((r.size : Int) != 64) = true := by rw [bne_iff_ne]; omega
    clear hA h64 h
    go_enter Try.func22, Try.ntmps22
    go_wp2_with fail
    go_ret3
    exact ⟨ret_vne HA.out, Fr.refl _ _⟩
#print axioms sJudge_big

/-! ### As bytes and back -/
theorem bs_bd {x : Ins} (h : x.ok) : ∀ b ∈ x.bs, 0 ≤ b ∧ b < 256 := by
  obtain ⟨⟨a1, a2⟩, ⟨b1, b2⟩, ⟨c1, c2⟩, ⟨d1, d2⟩⟩ := h
  intro b hb
  unfold Ins.bs at hb
  simp only [List.mem_cons, List.not_mem_nil, or_false] at hb
  rcases hb with rfl | rfl | rfl | rfl | rfl | rfl | rfl | rfl <;> omega
theorem enc_bd {l : List Ins} (h : ∀ x ∈ l, x.ok) : ∀ b ∈ enc l, 0 ≤ b ∧ b < 256 := by
  induction l with
  | nil => intro b hb; cases hb
  | cons x l ih =>
    intro b hb
    rcases List.mem_append.1 hb with hb | hb
    · exact bs_bd (h x (List.mem_cons_self ..)) b hb
    · exact ih (fun y hy => h y (List.mem_cons_of_mem _ hy)) b hb
theorem bcs_toBA {ns : List Int} (h : ∀ b ∈ ns, 0 ≤ b ∧ b < 256) : bcs (toBA ns) = u8s ns := by
  apply List.ext_getElem?
  intro j
  rcases Nat.lt_or_ge j ns.length with hj | hj
  · rw [bcs_byt _ _ (by rw [toBA_size]; exact hj), byt_toBA _ _ hj (h _ (List.getElem_mem hj))]
    simp [u8s, hj]
  · rw [List.getElem?_eq_none (by rw [bcs_len, toBA_size]; exact hj), List.getElem?_eq_none (by simp [u8s]; exact hj)]
theorem enc_at (l : List Ins) (k : Nat) (hk : k < l.length) (j : Nat) (hj : j < 8) : (enc l)[k * 8 + j]? = (l[k].bs)[j]? := by
  induction l generalizing k with
  | nil => cases hk
  | cons x l ih =>
    have hx : x.bs.length = 8 := rfl
    cases k with
    | zero =>
      show (x.bs ++ enc l)[0 * 8 + j]? = _
      rw [Nat.zero_mul, Nat.zero_add, List.getElem?_append_left (by omega)]
      rfl
    | succ k =>
      show (x.bs ++ enc l)[(k + 1) * 8 + j]? = _
      rw [List.getElem?_append_right (by omega), hx, show (k + 1) * 8 + j - 8 = k * 8 + j by omega, ih k (by simpa using hk)]
      rfl
theorem byt_enc {l : List Ins} (h : ∀ x ∈ l, x.ok) (k : Nat) (hk : k < l.length) (j : Nat) (hj : j < 8) (v : Int) (hv : (l[k].bs)[j]? = some v) : byt (toBA (enc l)) (k * 8 + j) = v := by
  have hl : k * 8 + j < (enc l).length := by rw [enc_len]; omega
  have he := enc_at l k hk j hj
  rw [List.getElem?_eq_getElem hl, hv, Option.some.injEq] at he
  rw [byt_toBA _ _ hl (enc_bd h _ (List.getElem_mem hl)), he]
theorem decI_enc {l : List Ins} (h : ∀ x ∈ l, x.ok) (k : Nat) (hk : k < l.length) : decI (toBA (enc l)) (k * 8) = l[k] := by
  obtain ⟨⟨a1, a2⟩, ⟨b1, b2⟩, ⟨c1, c2⟩, ⟨d1, d2⟩⟩ := h _ (List.getElem_mem hk)
  have e0 := byt_enc h k hk 0 (by decide) _ rfl
  have e1 := byt_enc h k hk 1 (by decide) _ rfl
  have e2 := byt_enc h k hk 2 (by decide) _ rfl
  have e3 := byt_enc h k hk 3 (by decide) _ rfl
  have e4 := byt_enc h k hk 4 (by decide) _ rfl
  have e5 := byt_enc h k hk 5 (by decide) _ rfl
  have e6 := byt_enc h k hk 6 (by decide) _ rfl
  have e7 := byt_enc h k hk 7 (by decide) _ rfl
  unfold decI wd
  rw [Nat.add_zero] at e0
  rw [e0, e1, e2, e3, e4, show k * 8 + 4 + 1 = k * 8 + 5 by omega, e5, show k * 8 + 4 + 2 = k * 8 + 6 by omega, e6, show k * 8 + 4 + 3 = k * 8 + 7 by omega, e7]
  generalize l[k] = x at *
  obtain ⟨a, b, c, d⟩ := x
  simp only [Ins.mk.injEq, true_and]
  constructor
  · show a % 256 + a / 256 * 256 = a
    omega
  · show d % 256 + d / 256 % 256 * 256 + d / 65536 % 256 * 65536 + d / 16777216 * 16777216 = d
    simp only at d1 d2
    omega
theorem decL_enc {l : List Ins} (h : ∀ x ∈ l, x.ok) : decL (toBA (enc l)) l.length = l := by
  unfold decL
  apply List.ext_getElem
  · simp
  · intro k h1 h2
    simp only [List.getElem_map, List.getElem_range]
    exact decI_enc h k h2
theorem size_enc (l : List Ins) : (toBA (enc l)).size = l.length * 8 := by rw [toBA_size, enc_len]
theorem okP_enc {l : List Ins} (h : ∀ x ∈ l, x.ok) (h0 : 0 < l.length) (h1 : l.length ≤ 4096) : okP (toBA (enc l)) = (chk l).1 := by
  unfold okP
  rw [size_enc, if_neg (by omega), Nat.mul_div_cancel _ (by decide), decL_enc h]
theorem dec_enc {l : List Ins} (h : ∀ x ∈ l, x.ok) : decL (toBA (enc l)) ((toBA (enc l)).size / 8) = l := by rw [size_enc, Nat.mul_div_cancel _ (by decide), decL_enc h]
/-- One list of bytes, handed in. -/
theorem bl_one (w : World) (t : TypeId) (s : ByteArray) (a : Option Addr) (c : Nat) (hc : s.size ≤ c) (hv : View w a (bcs s)) : BL (w.alloc (.cells #[.slice a s.size c] t)) (some ⟨w.heap.size, 0, none⟩) [s] := by
  refine ⟨[.slice a s.size c], view_new w _ _, rfl, fun j s' v hs hv' => ?_⟩
  rcases Nat.lt_or_ge j 1 with hj | hj
  · obtain rfl : j = 0 := by omega
    simp only [List.getElem?_cons_zero, Option.some.injEq] at hs hv'
    subst hs
    exact ⟨a, c, hv'.symm, hc, hv.fr0 ((Fr.refl _ w).alloc _)⟩
  · rw [List.getElem?_eq_none (by simpa using hj)] at hs; cases hs
/-- Alone on a stack. -/
theorem ins_one {l : List Ins} (h : ∀ x ∈ l, x.ok) (h0 : 0 < l.length) (h1 : l.length ≤ 4096) : insA [] [toBA (enc l)] = ((chk l).1, 0) := by
  have hk := okP_enc h h0 h1
  by_cases hz : (chk l).1 = 0
  · rw [insA_none (fun j hj => by
      have : j = 0 := by simp at hj; omega
      subst this
      unfold insF
      simp [hk, hz])]
    rw [if_neg]
    · rw [hz]
    · simp only [List.length_nil, List.length_singleton, tot, List.map_nil, List.map_cons, List.sum_cons, List.sum_nil, size_enc]
      rw [Nat.mul_div_cancel _ (by decide)]
      omega
  · rw [insA_bad (n := 0) (by simp) (fun j hj => absurd hj (Nat.not_lt_zero _)) (by simpa [hk] using hz)]
    simp [hk]
theorem jdg_nil (r : ByteArray) (h : r.size = 64) : jdgA [] r = (2147418112, -1, 0) := by unfold jdgA; rw [if_pos h]; rfl
theorem jdg_not (ls : List Prg) (r : ByteArray) (h : r.size ≠ 64) : jdgA ls r = (0, 0, 10) := by unfold jdgA; rw [if_neg h]
theorem jdg_one (q : Prg) (r : ByteArray) (h : r.size = 64) : jdgA [q] r = (ver q.l r, 0, 0) := by
  unfold jdgA
  rw [if_pos h]
  have : jdgN [q] r 1 = jst (2147418112, -1) 0 (ver q.l r) := rfl
  rw [show [q].length = 1 from rfl, this]
  rfl
/-- What Run and Judge answer: the same. -/
theorem thr_last {l : List Ins} (r : ByteArray) (ls : List Prg) (hl : ls.map Prg.l = if (chk l).1 = 0 then [l] else []) :
    ((chk l).1 ≠ 0 ∧ ((r.size ≠ 64 ∧ (jdgA ls r).2.2 = 10) ∨ (r.size = 64 ∧ jdgA ls r = (2147418112, -1, 0)))) ∨
    ((chk l).1 = 0 ∧ ((runA l r).2.2 = 10 ∧ (jdgA ls r).2.2 = 10 ∧ (jdgA ls r).1 = 0 ∧ (runA l r).1 = 0 ∨ (runA l r).2.2 = 0 ∧ (jdgA ls r).2.2 = 0 ∧ (jdgA ls r).1 = (runA l r).1 ∧ (jdgA ls r).2.1 = 0)) := by
  by_cases h0 : (chk l).1 = 0
  · refine .inr ⟨h0, ?_⟩
    rw [if_pos h0] at hl
    obtain ⟨q, rfl⟩ : ∃ q, ls = [q] := by
      match ls, hl with
      | [q], _ => exact ⟨q, rfl⟩
    have hq : q.l = l := by simpa using hl
    by_cases h64 : r.size = 64
    · refine .inr ?_
      rw [jdg_one q r h64, runA_ok h0 h64, hq]
      exact ⟨rfl, rfl, rfl, rfl⟩
    · refine .inl ?_
      have hA : runA l r = (0, 0, 10) := by unfold runA; rw [if_neg (by simpa using h0), if_pos h64]
      rw [jdg_not _ r h64, hA]
      exact ⟨rfl, rfl, rfl, rfl⟩
  · refine .inl ⟨h0, ?_⟩
    rw [if_neg h0] at hl
    obtain rfl : ls = [] := by simpa using hl
    by_cases h64 : r.size = 64
    · exact .inr ⟨h64, jdg_nil r h64⟩
    · exact .inl ⟨h64, by rw [jdg_not _ r h64]⟩
#print axioms thr_last

set_option maxRecDepth 100000 in
set_option maxHeartbeats 4000000 in
theorem through_no (w : World) (ao : Option Addr) (cap : Nat) (l : List Ins) (hv : View w ao (flat l)) (hok : ∀ x ∈ l, x.ok) (hs : l.length ≤ 17592186043904) (r : ByteArray) (h0 : l.length = 0 ∨ 4096 < l.length) :
    Calls Try.prog 8 #[.slice ao l.length cap, .string r] w fun e w' => e = .returned (.bool true) ∧ Fr nob w w' := by
  have HV := hide hv
  have HOK := hide hok
  have HB : Hid (∀ w ao cap, Calls Try.prog 19 #[.slice ao (l.length * 8) cap] w fun e w' => e = .returned (.tuple #[.slice none 0 0, .int .i64 1]) ∧ w' = w) := fun w ao cap => sDecode_big w ao (l.length * 8) cap (by omega) (by omega)
  have hm : IntKind.i64.wrap (8 * (l.length : Int)) = ((l.length * 8 : Nat) : Int) := by simp [IntKind.wrap_i64]; omega
  clear hv hok
  go_enter Try.func8, Try.ntmps8
  go_wp2_with fail
  refine (known_any w).mono ?_
  rintro e w1 ⟨rfl, f1⟩
  have F1 := hide f1
  clear f1
  go_wp2_with fail
  refine (sEncode_big w1 ao cap l hs (HV.out.fr0 F1.out) HOK.out).mono ?_
  rintro e w2 ⟨g, c, rfl, o2, hg, f2⟩
  have F2 := hide (F1.out.trans f2)
  clear f2 F1 o2 hg
  go_wp2_with fail
  refine (HB.out w2 _ c).mono ?_
  rintro e w3 ⟨rfl, rfl⟩
  by_cases h1 : l.length = 0
  · have h2 : (l.length : Int) = 0 := by omega
    clear h0
    go_wp2
    go_ret
    exact ⟨rfl, F2.out⟩
  · have h2 : ((l.length : Int) == 0) = false := by rw [beq_eq_false_iff_ne]; omega
    have h3 : (4096 : Int) < (l.length : Int) := by omega
    clear h0 h1
    go_wp2
    go_ret
    exact ⟨rfl, F2.out⟩

set_option maxRecDepth 100000 in
set_option maxHeartbeats 4000000 in
theorem through_ok (w : World) (ao : Option Addr) (cap : Nat) (l : List Ins) (hv : View w ao (flat l)) (hok : ∀ x ∈ l, x.ok) (r : ByteArray) (h0 : 0 < l.length) (h1 : l.length ≤ 4096) :
    Calls Try.prog 8 #[.slice ao l.length cap, .string r] w fun e w' => e = .returned (.bool true) ∧ Fr nob w w' := by
  obtain ⟨s, hs⟩ : ∃ s, s = toBA (enc l) := ⟨_, rfl⟩
  have hsz : s.size = l.length * 8 := by rw [hs]; exact size_enc l
  have hbc : bcs s = u8s (enc l) := by rw [hs]; exact bcs_toBA (enc_bd hok)
  have hde : decL s l.length = l := by rw [hs]; exact decL_enc hok
  have hde2 : decL s (s.size / 8) = l := by rw [hs]; exact dec_enc hok
  have hins : insA [] [s] = ((chk l).1, 0) := by rw [hs]; exact ins_one hok h0 h1
  have HV := hide hv
  have HOK := hide hok
  have HBC := hide hbc
  have HDE := hide hde
  have HDE2 := hide hde2
  have HINS := hide hins
  have HSZ := hide hsz
  have hm : IntKind.i64.wrap (8 * (l.length : Int)) = ((l.length * 8 : Nat) : Int) := by simp [IntKind.wrap_i64]; omega
  have e0 : ((l.length : Int) == 0) = false := by rw [beq_eq_false_iff_ne]; omega
  clear hv hok hbc hde hde2 hins hs hsz
  go_enter Try.func8, Try.ntmps8
  go_wp2_with fail
  refine (known_any w).mono ?_
  rintro e w1 ⟨rfl, f1⟩
  have F1 := hide f1
  clear f1
  go_wp2_with fail
  refine (sEncode_big w1 ao cap l (by omega) (HV.out.fr0 F1.out) HOK.out).mono ?_
  rintro e w2 ⟨g, c, rfl, o2, hg, f2⟩
  have F2 := hide (F1.out.trans f2)
  have O2 : Hid (View w2 (some ⟨g, 0, none⟩) (bcs s) ∧ s.size ≤ c) := by
    rw [← HBC.out] at o2
    refine ⟨own_view o2 (by simp), ?_⟩
    rw [HSZ.out]
    rcases o2.2 with ⟨hv, hn⟩ | ⟨g', cap', cur, hv, _, _, hle, _⟩
    · cases hv
    · simp only [Value.slice.injEq] at hv
      obtain ⟨_, _, rfl⟩ := hv
      exact hle
  clear f2 F1 o2 hg
  have HD : Hid (Calls Try.prog 19 #[.slice (some ⟨g, 0, none⟩) (l.length * 8) c] w2 fun e w' => e = .returned (.tuple #[.slice (some ⟨w2.heap.size, 0, none⟩) l.length l.length, .int .i64 0]) ∧
      Own w' 32 4 (some ⟨w2.heap.size, 0, none⟩) l.length l.length (flat l) ∧ Fr nob w2 w') := by
    obtain ⟨b, off, hbo, hseg⟩ := O2.out.1.some (by intro e; have := bcs_len s; rw [e] at this; have := HSZ.out; simp at *; omega)
    simp only [Option.some.injEq, Addr.mk.injEq] at hbo
    obtain ⟨rfl, rfl, _⟩ := hbo
    have := sDecode_ok w2 g 0 c s l.length HSZ.out h0 h1 O2.out.2 hseg
    rw [HDE.out, HSZ.out] at this
    exact this
  go_wp2_with fail
  refine HD.out.mono ?_
  rintro e w3 ⟨rfl, o3, f3⟩
  have F3 := hide (F2.out.trans f3)
  have O3 := hide o3
  have B3 := hide (O2.out.1.fr0 f3)
  have HC := hide O2.out.2
  clear f3 F2 o3 O2 HD HBC
  obtain ⟨gm, hgm⟩ : ∃ gm, gm = w2.heap.size := ⟨_, rfl⟩
  rw [← hgm] at O3 ⊢
  clear hgm
  go_wp2_with fail
  go_loopw [9] (fun y wr => ∃ n : Nat, n ≤ l.length ∧ y = .int .i64 n ∧ Fr nob w3 wr) (fun y _ => l.length - (intOf y).toNat)
  case atStart => exact ⟨0, Nat.zero_le _, rfl, Fr.refl _ _⟩
  case round =>
    obtain ⟨n, hn, rfl, f⟩ := hrel
    have FF := hide f
    by_cases hlt : n < l.length
    · have hne : flat l ≠ [] := by intro e; have := flat_len l; rw [e] at this; simp at this; omega
      obtain ⟨b, off, rfl, hseg⟩ := ((HV.out.fr0 F3.out).fr0 f).some hne
      have hgm : Seg wr gm 0 (flat l) := by
        obtain ⟨b', off', hbo, hs'⟩ := (own_view (own_fr O3.out f (fun _ _ h => h)) (ys := flat l) (by rw [List.take_of_length_le (Nat.le_refl _)])).some hne
        simp only [Option.some.injEq, Addr.mk.injEq] at hbo
        obtain ⟨rfl, rfl, _⟩ := hbo
        exact hs'
      obtain ⟨v0, v1, v2, v3⟩ := hseg.ins n hlt
      obtain ⟨m0, m1, m2, m3⟩ := hgm.ins n hlt
      rw [Nat.zero_add] at m0 m1 m2 m3
      generalize l[n] = x at v0 v1 v2 v3 m0 m1 m2 m3
      have hlti : (n : Int) < (l.length : Int) := by omega
      clear hne hseg hgm f
      go_wp2_with fail
      go_region
      obtain ⟨w4, hw4⟩ : ∃ w4, w4 = wr.drew := ⟨_, rfl⟩
      rw [← hw4]
      have F4 : Hid (Fr nob w3 w4) := by rw [hw4]; exact FF.out.drew
      clear hw4 v0 v1 v2 v3 m0 m1 m2 m3
      go_wp2_with fail
      go_roundw
      case rel => exact ⟨n + 1, by omega, by go_num, F4.out⟩
      case measure => simp [intOf]; omega
    · have hnl : n = l.length := by omega
      subst hnl
      clear hlt f hn
      have F4 := hide (F3.out.trans FF.out)
      have B4 := hide (B3.out.fr0 FF.out)
      clear FF F3 B3 O3
      obtain ⟨v, hv⟩ : ∃ v, v = runA l r := ⟨_, rfl⟩
      obtain ⟨vv, vn, ve⟩ := v
      obtain ⟨ce, hce⟩ : ∃ ce, ce = (chk l).1 := ⟨_, rfl⟩
      obtain ⟨cn, hcn⟩ : ∃ cn, cn = (chk l).2 := ⟨_, rfl⟩
      have HR := hide hv.symm
      have HCK : Hid (chk l = (ce, cn)) := by rw [hce, hcn]; rfl
      have HCE := hide hce
      clear hv hce hcn
      go_wp2_with fail
      refine (new_any wr).mono ?_
      rintro e w5 ⟨rfl, b5, f5⟩
      obtain ⟨gs, hgs⟩ : ∃ gs, gs = wr.heap.size := ⟨_, rfl⟩
      rw [← hgs] at b5 ⊢
      have hwg : w.heap.size ≤ gs := by rw [hgs]; exact F4.out.size
      have SP5 : Hid (SP w5 gs 77 []) := ⟨b5, fun q hq => by cases hq⟩
      have F5 := hide (F4.out.trans f5)
      have B5 := hide (B4.out.fr0 f5)
      clear b5 f5 hgs F4 B4
      go_wp2_with fail
      refine (check_is w5 ao cap l (HV.out.fr0 F5.out) HOK.out ce cn HCK.out).mono ?_
      rintro e w6 ⟨rfl, f6⟩
      have F6 := hide (F5.out.trans f6)
      have B6 := hide (B5.out.fr0 f6)
      have SP6 : Hid (SP w6 gs 77 []) := ⟨SP5.out.blk.fr0 f6, fun q hq => by cases hq⟩
      clear f6 F5 B5 SP5
      have BL7 := hide (bl_one w6 59 s (some ⟨g, 0, none⟩) c HC.out B6.out)
      have SP7 : Hid (SP (w6.alloc (.cells #[.slice (some ⟨g, 0, none⟩) s.size c] 59)) gs 77 []) := ⟨SP6.out.blk.alloc _, fun q hq => by cases hq⟩
      have F7 : Hid (Fr nob w (w6.alloc (.cells #[.slice (some ⟨g, 0, none⟩) s.size c] 59))) := F6.out.alloc _
      have HI := hide (sInstall_any _ gs 77 [] SP7.out (by decide) (by decide) (some ⟨w6.heap.size, 0, none⟩) 1 [s] BL7.out (by simp) (by intro x hx; simp only [List.mem_singleton] at hx; rw [hx, HSZ.out]; omega))
      rw [HSZ.out] at HI F7 SP7
      rw [HINS.out, ← HCE.out] at HI
      clear BL7 SP6 F6 B6 HC
      go_wp2_with fail
      refine HI.out.mono ?_
      rintro e w8 ⟨rfl, hne, heq⟩
      have SP8 : ∃ ls, SP w8 gs 77 ls ∧ ls.map Prg.l = (if ce = 0 then [l] else []) ∧ ls.length ≤ 8 ∧ Fr nob w w8 := by
        by_cases hz : ce = 0
        · obtain ⟨qs, q1, q2, q3, q4⟩ := heq hz
          rw [List.nil_append] at q1
          have q5 : qs.map Prg.l = [l] := by rw [q2]; simp [HDE2.out]
          refine ⟨qs, q1, by rw [if_pos hz, q5], ?_, fr_new F7.out hwg q4⟩
          have := congrArg List.length q5
          simp at this
          omega
        · exact ⟨[], ⟨SP7.out.blk.fr0 (hne hz), fun q hq => by cases hq⟩, by rw [if_neg hz]; rfl, by decide, F7.out.trans (hne hz)⟩
      obtain ⟨ls, hsp, hls, hl8, f8⟩ := SP8
      have HSP := hide hsp
      have F8 := hide f8
      have HL := hide (thr_last r ls (by rw [← HCE.out]; exact hls))
      rw [HR.out, ← HCE.out] at HL
      clear hne heq hsp hls f8 HI SP7 F7
      go_wp2_with fail
      refine (run_is w8 ao cap l (HV.out.fr0 F8.out) HOK.out r vv vn ve HR.out).mono ?_
      rintro e w9 ⟨rfl, f9⟩
      have F9 := hide (F8.out.trans f9)
      have HSP9 : Hid (SP w9 gs 77 ls) := ⟨HSP.out.blk.fr0 f9, fun q hq => po_fr (HSP.out.p q hq) f9 (fun _ _ h => h)⟩
      clear f9 F8 HSP
      go_wp2_with fail
      refine (sJudge_big w9 gs 77 ls HSP9.out hl8 r).mono ?_
      rintro e w10 ⟨rfl, f10⟩
      have F10 := hide (F9.out.trans f10)
      clear f10 F9
      obtain ⟨j, hj⟩ : ∃ j, j = jdgA ls r := ⟨_, rfl⟩
      obtain ⟨u, wh, je⟩ := j
      rw [← hj] at HL ⊢
      clear hj
      rcases HL.out with ⟨hz, ⟨h64, q⟩ | ⟨h64, q⟩⟩ | ⟨hz, ⟨q1, q2, q3, q4⟩ | ⟨q1, q2, q3, q4⟩⟩
      · have z1 : (ce == 0) = false := by rw [beq_eq_false_iff_ne]; exact hz
        have q' : je = 10 := q
        have i64' : ((r.size : Int) == 64) = false := by rw [beq_eq_false_iff_ne]; omega
        have h64n : ¬ r.size = 64 := h64
        have h64i : ¬ (r.size : Int) = 64 := by omega
        subst q'
        clear HL hz q h64
        go_wp2
        go_ret
        refine ⟨ret_b ?_, F10.out⟩
        first
          | rfl
          | (simp [h64i])
          | (simp [h64n])
      · have z1 : (ce == 0) = false := by rw [beq_eq_false_iff_ne]; exact hz
        simp only [Prod.mk.injEq] at q
        obtain ⟨rfl, rfl, rfl⟩ := q
        have i64' : (r.size : Int) = 64 := by omega
        clear HL hz h64
        go_wp2
        go_ret
        exact ⟨rfl, F10.out⟩
      · have a1 : ve = 10 := q1
        have a2 : je = 10 := q2
        have a3 : u = 0 := q3
        have a4 : vv = 0 := q4
        subst hz a1 a2 a3 a4
        clear HL q1 q2 q3 q4
        go_wp2
        go_ret
        exact ⟨rfl, F10.out⟩
      · have a1 : ve = 0 := q1
        have a2 : je = 0 := q2
        have a3 : u = vv := q3
        have a4 : wh = 0 := q4
        subst hz a1 a2 a3 a4
        clear HL q1 q2 q3 q4
        go_wp2
        go_ret
        exact ⟨rfl, F10.out⟩
#print axioms through_ok
/-- As bytes and back, and alone on a stack. -/
theorem through_any (w : World) (ao : Option Addr) (cap : Nat) (l : List Ins) (hv : View w ao (flat l)) (hok : ∀ x ∈ l, x.ok) (hs : l.length ≤ 17592186043904) (r : ByteArray) :
    Calls Try.prog 8 #[.slice ao l.length cap, .string r] w fun e w' => e = .returned (.bool true) ∧ Fr nob w w' := by
  by_cases h : l.length = 0 ∨ 4096 < l.length
  · exact through_no w ao cap l hv hok hs r h
  · exact through_ok w ao cap l hv hok r (by omega) (by omega)
end Go.Proofs.Ytjgcfffepkmojaa
