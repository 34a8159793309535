import Derived.Test.YtjgcfffepkmojaaKThr
import Derived.Test.YtjgcfffepkmojaaSmall
namespace Go.Proofs.Ytjgcfffepkmojaa
open Go.RowKit
set_option linter.unusedVariables false

/-! ### The strictest -/
def l8v : List Value := [.int .u32 2147483648, .int .u32 0, .int .u32 196608, .int .u32 327680, .int .u32 2143289344, .int .u32 2146435072, .int .u32 2147221504, .int .u32 2147418112]
def l8 : List Int := [2147483648, 0, 196608, 327680, 2143289344, 2146435072, 2147221504, 2147418112]
theorem l8v_at (n : Nat) (h : n < 8) : l8v[n]? = some (.int .u32 (l8.getD n 0)) := by
  have : n = 0 ∨ n = 1 ∨ n = 2 ∨ n = 3 ∨ n = 4 ∨ n = 5 ∨ n = 6 ∨ n = 7 := by omega
  rcases this with rfl | rfl | rfl | rfl | rfl | rfl | rfl | rfl <;> rfl
/-- How strict, of what is left of a verdict. -/
def rk8 (a : Int) : Int := 1 + ix7 a
theorem rk8_at (n : Nat) (h : n < 8) : rk8 (l8.getD n 0) = n := by
  have : n = 0 ∨ n = 1 ∨ n = 2 ∨ n = 3 ∨ n = 4 ∨ n = 5 ∨ n = 6 ∨ n = 7 := by omega
  rcases this with rfl | rfl | rfl | rfl | rfl | rfl | rfl | rfl <;> rfl
theorem rk8_no (a : Int) (h : ∀ j, j < 8 → l8.getD j 0 ≠ a) : rk8 a = 0 := by
  unfold rk8
  rw [ix7_no a (fun j hj => by
    have := h (j + 1) (by omega)
    exact this)]
  rfl
set_option maxRecDepth 100000 in
set_option maxHeartbeats 2000000 in
theorem strict_any (w : World) (v : Int) (hv : U32 v) :
    Calls Try.prog 24 #[.int .u32 v] w fun e w' => e = .returned (.int .i64 (rnk v)) ∧ Fr nob w w' := by
  have h1 := and_act v hv
  have h2 : rk8 (v / 65536 * 65536) = rnk v := ix7_rnk v
  have HK : Hid ((w.alloc (.cells l8v.toArray 79)).heap[w.heap.size]? = some (.cells l8v.toArray 79 (0, 0))) := heap_alloc_new w _
  obtain ⟨a, ha⟩ : ∃ a, a = v / 65536 * 65536 := ⟨_, rfl⟩
  rw [← ha] at h1 h2
  clear ha
  have H2 := hide h2
  clear h2
  go_enter Try.func24, Try.ntmps24
  go_wp2_with fail
  obtain ⟨w1, hw1⟩ : ∃ w1, w1 = w.alloc (.cells l8v.toArray 79) := ⟨_, rfl⟩
  change Code.wp _ _ _ _ (w.alloc (.cells l8v.toArray 79))
  rw [← hw1] at HK ⊢
  have F1 : Hid (Fr nob w w1) := by rw [hw1]; exact (Fr.refl _ w).alloc _
  obtain ⟨g, hg⟩ : ∃ g, g = w.heap.size := ⟨_, rfl⟩
  rw [← hg] at HK ⊢
  clear hw1 hg
  go_wp2_with fail
  go_loopw [4] (fun y wr => ∃ n : Nat, n ≤ 8 ∧ y = .int .i64 n ∧ (∀ j, j < n → l8.getD j 0 ≠ a) ∧ wr = w1) (fun y _ => 8 - (intOf y).toNat)
  case atStart => exact ⟨0, by omega, rfl, fun j hj => absurd hj (Nat.not_lt_zero _), rfl⟩
  case round =>
    obtain ⟨n, hn, rfl, hj, rfl⟩ := hrel
    by_cases hlt : n < 8
    · have c0 : wr.cell? ⟨g, n, none⟩ = some (.int .u32 (l8.getD n 0)) := cell_blk HK.out (by rw [List.getElem?_toArray]; exact l8v_at n hlt)
      have hat := rk8_at n hlt
      obtain ⟨y, hy⟩ : ∃ y, y = l8.getD n 0 := ⟨_, rfl⟩
      rw [← hy] at c0 hat
      have HJ := hide hj
      have HY := hide hy
      have HAT := hide hat
      have hlti : (n : Int) < 8 := by omega
      clear hj hy hat
      by_cases he : a = y
      · subst he
        go_wp2_with fail
        go_ret
        exact ⟨ret_i (HAT.out.symm.trans H2.out), F1.out⟩
      · have e1 : (a == y) = false := beq_eq_false_iff_ne.2 he
        have HE := hide he
        clear he HAT
        go_wp2_with fail
        go_roundw
        case rel => exact ⟨n + 1, by omega, by go_num, fun j hj => by
          rcases Nat.lt_or_ge j n with h | h
          · exact HJ.out j h
          · rw [show j = n by omega, ← HY.out]; exact fun e => HE.out e.symm, by first | rfl | trivial⟩
        case measure => simp [intOf]; omega
    · have hn7 : n = 8 := by omega
      subst hn7
      have hno := (rk8_no a hj).symm.trans H2.out
      clear hj
      go_wp2_with fail
      go_ret
      exact ⟨ret_i hno, F1.out⟩
#print axioms strict_any

/-- A program of one instruction. -/
def R (v : Int) : List Ins := [⟨6, 0, 0, v⟩]
def rb (v : Int) : ByteArray := toBA (enc (R v))
theorem R_ok {v : Int} (h : U32 v) : ∀ x ∈ R v, x.ok := by
  intro x hx
  simp only [R, List.mem_singleton] at hx
  subst hx
  exact ok_lit 6 v (by decide) (by decide) h.1 h.2
theorem R_good {v : Int} (h : U32 v) : Good (R v) := ⟨by simp [R], by simp [R], R_ok h, fun i hi => by
  obtain rfl : i = 0 := by simp [R] at hi; omega
  exact ret_flt v _, by show knd 6 = 9; decide⟩
theorem R_fine {v : Int} (h : U32 v) : Fine (R v) := fine_nocell (R_good h) (fun i hi => by
  obtain rfl : i = 0 := by simp [R] at hi; omega
  show knd 6 ≠ 5
  decide)
theorem R_ver (v : Int) (r : ByteArray) : ver (R v) r = v := by
  have s1 : stN (R v) r 1 = ⟨0, 0, fun _ => 0, 1, true, v⟩ := rfl
  exact ver_of 1 (by simp [R]) s1 rfl (fun j hj => by
    obtain rfl : j = 0 := (by omega)
    rfl)
theorem rb_size (v : Int) : (rb v).size = 8 := by unfold rb; rw [size_enc]; rfl
theorem rb_ok {v : Int} (h : U32 v) : okP (rb v) = 0 := by
  unfold rb
  rw [okP_enc (R_ok h) (by simp [R]) (by simp [R]), (R_fine h).chk]
theorem rb_dec {v : Int} (h : U32 v) : decL (rb v) ((rb v).size / 8) = R v := dec_enc (R_ok h)
theorem rb_bcs {v : Int} (h : U32 v) : bcs (rb v) = u8s (enc (R v)) := bcs_toBA (enc_bd (R_ok h))
set_option maxRecDepth 100000 in
theorem kret_any (w : World) (v : Int) : Calls Try.prog 23 #[.int .u32 v] w fun e w' => e = .returned (.slice (some ⟨w.heap.size, 0, none⟩) 1 1) ∧ View w' (some ⟨w.heap.size, 0, none⟩) (flat (R v)) ∧ Fr nob w w' := by
  go_enter Try.func23, Try.ntmps23
  go_wp2_with fail
  go_ret
  exact ⟨rfl, view_new w _ _, (Fr.refl _ w).alloc _⟩

theorem own_le {w : World} {e : TypeId} {z : Nat} {ao : Option Addr} {n c : Nat} {xs : List Value} (h : Own w e z ao n c xs) : n ≤ c := by
  rcases h.2 with ⟨hv, hn⟩ | ⟨g', cap', cur, hv, _, _, hle, _⟩
  · simp only [Value.slice.injEq] at hv
    omega
  · simp only [Value.slice.injEq] at hv
    obtain ⟨_, _, rfl⟩ := hv
    exact hle
/-- A list of bytes that was made. -/
structure Bv where
  a : Option Addr
  c : Nat
  s : ByteArray
def Bv.v (b : Bv) : Value := .slice b.a b.s.size b.c
def Bv.own (b : Bv) (w : World) : Prop := Own w 5 1 b.a b.s.size b.c (bcs b.s)
set_option maxRecDepth 100000 in
/-- A program of one instruction, as bytes. -/
theorem eret_any (w : World) (v : Int) (hv : U32 v) (ao : Option Addr) (hw : View w ao (flat (R v))) :
    Calls Try.prog 18 #[.slice ao 1 1] w fun e w' => ∃ b : Bv, e = .returned (.slice b.a b.s.size b.c) ∧ b.s = rb v ∧ b.own w' ∧ Fr nob w w' := by
  refine (sEncode_any w ao 1 (R v) (by simp [R]) hw (R_ok hv)).mono ?_
  rintro e w' ⟨g, c, rfl, o, _, f⟩
  rw [← rb_bcs hv] at o
  refine ⟨⟨some ⟨g, 0, none⟩, c, rb v⟩, ?_, rfl, ?_, f⟩
  · show _ = Ending.returned (.slice (some ⟨g, 0, none⟩) (rb v).size c)
    rw [rb_size]; rfl
  · show Own w' _ 1 (some ⟨g, 0, none⟩) (rb v).size c (bcs (rb v))
    rw [rb_size]; exact o
/-- The list of all that were made, and the stack gs. -/
structure ST (w wr : World) (aa : Option Addr) (ca : Nat) (bs : List Bv) (gs : Nat) (qs : List Prg) : Prop where
  own : Own wr 59 1 aa bs.length ca (bs.map Bv.v)
  el : ∀ b ∈ bs, b.own wr
  newA : ∀ x, bk (.slice aa bs.length ca) x → w.heap.size ≤ x
  sp : SP wr gs 77 qs
  hgs : w.heap.size ≤ gs
  f : Fr nob w wr
theorem sp_fr {S : Nat → Prop} {w w' : World} {g : Nat} {qs : List Prg} (h : SP w g 77 qs) (f : Fr S w w') (hg : ¬ S g) (hS : ∀ q ∈ qs, ∀ x, bk (.slice q.a q.l.length q.cap) x → ¬ S x) : SP w' g 77 qs :=
  ⟨f.heap h.blk hg, fun q hq => po_fr (h.p q hq) f (hS q hq)⟩
theorem ST.fr {w wr wx : World} {aa : Option Addr} {ca : Nat} {bs : List Bv} {gs : Nat} {qs : List Prg} (h : ST w wr aa ca bs gs qs) (f : Fr nob wr wx) : ST w wx aa ca bs gs qs :=
  ⟨own_fr h.own f (fun _ _ h => h), fun b hb => own_fr (h.el b hb) f (fun _ _ h => h), h.newA, sp_fr h.sp f (fun h => h) (fun _ _ _ _ h => h), h.hgs, h.f.trans f⟩
theorem ST.push {w wr w4 : World} {aa : Option Addr} {ca : Nat} {bs : List Bv} {gs : Nat} {qs : List Prg} (h : ST w wr aa ca bs gs qs) (b : Bv) (hb : b.own wr) (o : Obj) {g4 c4 : Nat}
    (o4 : Own w4 59 1 (some ⟨g4, 0, none⟩) (bs.length + 1) c4 (bs.map Bv.v ++ [b.v])) (f4 : Fr (bk (.slice aa bs.length ca)) (wr.alloc o) w4) (hat : bk (.slice aa bs.length ca) g4 ∨ g4 = wr.heap.size + 1) :
    ST w w4 (some ⟨g4, 0, none⟩) c4 (bs ++ [b]) gs qs := by
  have hsz := h.f.size
  refine ⟨by rw [List.length_append, List.map_append]; exact o4, ?_, ?_, ?_, h.hgs, ?_⟩
  · intro b' hb'
    have hb'' : b'.own wr := by
      rcases List.mem_append.1 hb' with h1 | h1
      · exact h.el b' h1
      · simp only [List.mem_singleton] at h1; rw [h1]; exact hb
    have ha : Own (wr.alloc o) 5 1 b'.a b'.s.size b'.c (bcs b'.s) := World.ownsRow.alloc hb'' o
    exact own_fr ha f4 (own_apart ha (World.ownsRow.alloc h.own o) (by decide))
  · intro x hx
    simp only [bk, Value.ownBlock, Option.some.injEq] at hx
    rcases hat with e | e
    · have := h.newA g4 e; omega
    · omega
  · have hsa : SP (wr.alloc o) gs 77 qs := ⟨h.sp.blk.alloc o, fun q hq => ⟨World.ownsRow.alloc (h.sp.p q hq).1 o, (h.sp.p q hq).2⟩⟩
    refine sp_fr hsa f4 (own_ne (World.ownsRow.alloc h.own o) hsa.blk (by decide)) (fun q hq => own_apart (hsa.p q hq).1 (World.ownsRow.alloc h.own o) (by decide))
  · exact (h.f.alloc o).step f4 (fun x hx e => by have := h.newA x e; omega)
theorem ST.inst {w wr w2 : World} {aa : Option Addr} {ca : Nat} {bs : List Bv} {gs : Nat} {qs rs : List Prg} (h : ST w wr aa ca bs gs qs) (hs : SP w2 gs 77 rs) (f : Fr (only gs) wr w2) : ST w w2 aa ca bs gs rs :=
  ⟨own_fr h.own f (fun x hx e => own_ne h.own h.sp.blk (by decide) (by have e' : x = gs := e; rw [← e']; exact hx)), fun b hb => own_fr (h.el b hb) f (fun x hx e => own_ne (h.el b hb) h.sp.blk (by decide) (by have e' : x = gs := e; rw [← e']; exact hx)),
    h.newA, hs, h.hgs, fr_new h.f h.hgs f⟩
theorem ST.bl {w wr : World} {aa : Option Addr} {ca : Nat} {bs : List Bv} {gs : Nat} {qs : List Prg} (h : ST w wr aa ca bs gs qs) : BL wr aa (bs.map Bv.s) := by
  refine ⟨bs.map Bv.v, own_view h.own (by rw [List.take_of_length_le (Nat.le_refl _)]), by simp, fun j s v hs hv => ?_⟩
  rw [List.getElem?_map] at hs hv
  cases hb : bs[j]? with
  | none => rw [hb] at hs; cases hs
  | some b =>
    rw [hb] at hs hv
    simp only [Option.map_some, Option.some.injEq] at hs hv
    subst hs hv
    have ho := h.el b (List.mem_of_getElem? hb)
    exact ⟨b.a, b.c, rfl, own_le ho, own_view ho (by simp)⟩
#print axioms ST.push
end Go.Proofs.Ytjgcfffepkmojaa
