import Derived.Test.YtjgcfffepkmojaaGreatUpTo
namespace Go.Proofs.YtjgcfffepkmojaaGreat
open Go.RowKit
set_option linter.unusedVariables false

/-- Each step of these kinds is as it must be. -/
def StepGood (least last : Int) : Prop := ∀ (B : Nat) (o : OpR), least ≤ o.kind → o.kind ≤ last → ∀ w1 hs, AtA w1 B B (.slice none 0 0) hs → hs.length ≤ 9900000000000 → o.okP w1 B →
  Calls Tryz.prog 11 #[.pointer (some ⟨B, 0, none⟩), o.v] w1 fun e w' => e = .returned (.bool true) ∧ ∃ hs', AtA w' B B (.slice none 0 0) hs' ∧ hs'.length ≤ hs.length + 8 ∧ Fr (up B) w1 w'

theorem good_wire : StepGood 1 2 := fun B o h1 h2 w1 hs hA hl ho =>
  (step_plain w1 B B _ hs _ hA o ho (by omega) (fun w2 hA2 ho2 => plain_wire w2 B B _ hs _ hA2 hl o ho2 (by omega))).mono (fun e w' ⟨h1, hs', h2, h3, h4⟩ => ⟨h1, hs', h2.all, h3, h4.up⟩)

def z63 : Array Value := Array.replicate 63 (.int .u8 0)
def exL : List Ins := [⟨32, 0, 0, 0⟩, ⟨21, 0, 1, 39⟩, ⟨6, 0, 0, 0⟩, ⟨6, 0, 0, 2147418112⟩]

theorem exL_ok : ∀ x ∈ exL, x.ok := by
  intro x hx
  simp only [exL, List.mem_cons, List.not_mem_nil, or_false] at hx
  rcases hx with rfl | rfl | rfl | rfl <;> (refine ⟨⟨?_, ?_⟩, ⟨?_, ?_⟩, ⟨?_, ?_⟩, ⟨?_, ?_⟩⟩ <;> decide)
/-- The example's script: A: the instructions' block; b, r: the bytes, the record; R: the rules' block; T: the texts' block. -/
def exOps (A R T : Nat) (b r : ByteArray) : List OpR :=
  [⟨1, 0, none, 0, [], b, 0, none, 0, 0, 0, 0, none, 0, 0⟩, ⟨2, 0, some ⟨A, 0, none⟩, 4, exL, ⟨#[]⟩, 0, none, 0, 0, 0, 0, none, 0, 0⟩, ⟨3, 0, some ⟨A, 0, none⟩, 4, exL, ⟨#[]⟩, 0, none, 0, 0, 0, 0, none, 0, 0⟩,
   ⟨3, 0, some ⟨A, 0, none⟩, 4, exL.take 1, ⟨#[]⟩, 0, none, 0, 0, 0, 0, none, 0, 0⟩, ⟨4, 0, some ⟨A, 0, none⟩, 4, exL, r, 0, none, 0, 0, 0, 0, none, 0, 0⟩, ⟨5, 0, none, 0, [], r, 0, some ⟨R, 0, none⟩, 1, 1, 2147418112, 0, none, 0, 0⟩,
   ⟨6, 0, none, 0, [], ⟨#[]⟩, 0, none, 0, 0, 0, 0, none, 0, 0⟩, ⟨7, 0, none, 0, [], ⟨#[]⟩, 0, none, 0, 0, 0, 0, some ⟨T, 0, none⟩, 1, 1⟩, ⟨8, 0, none, 0, [], r, 0, none, 0, 0, 0, 0, none, 0, 0⟩]
theorem exOps_len (A R T : Nat) (b r : ByteArray) : (exOps A R T b r).length ≤ 1172812402926 := by show 9 ≤ 1172812402926; decide
theorem exOps_ok {w : World} {B A R T : Nat} {b r : ByteArray} (o : Own w 29 4 (some ⟨A, 0, none⟩) 4 4 (flat exL)) (hA : A < B) (hb : b.size ≤ 10000000) (hr : r.size ≤ 10000000)
    (hR : R < B) (kR : w.heap[R]? = some (.cells #[.int .u32 39, .slice none 0 0, .int .u32 327680] 35 (0, 0))) (hT : T < B) (kT : w.heap[T]? = some (.cells #[.string b] 9 (0, 0))) : ∀ x ∈ exOps A R T b r, x.ok w B := by
  have v1 : View w (some ⟨A, 0, none⟩) (flat exL) := own_view o (by simp)
  have v2 : View w (some ⟨A, 0, none⟩) (flat (exL.take 1)) := own_view o rfl
  have h0 : (ByteArray.mk #[]).size ≤ 10000000 := by decide
  have l4 : exL.length ≤ 10000000 := by decide
  have l1 : (exL.take 1).length ≤ 10000000 := by decide
  have l0 : ([] : List Ins).length ≤ 10000000 := by decide
  have hk : ∀ x ∈ exL.take 1, x.ok := fun x hx => exL_ok x (List.mem_of_mem_take hx)
  have hB : ∀ l : List Ins, l ≠ [] → ∀ c off, (some ⟨A, 0, none⟩ : Option Addr) = some ⟨c, off, none⟩ → c < B := fun _ _ c off e => by simp at e; omega
  have n0 : I64 0 := ⟨by decide, by decide⟩
  have u0 : U32 0 := ⟨by decide, by decide⟩
  have q0 : U32 0 ∧ U32 0 ∧ U32 0 := ⟨u0, u0, u0⟩
  have q1 : U32 0 ∧ U32 2147418112 ∧ U32 0 := ⟨u0, ⟨by decide, by decide⟩, u0⟩
  have p0 : ∃ rs : List Rul, 0 = rs.length ∧ PolV w B none rs := ⟨[], rfl, PolV.nil w B⟩
  have s0 : ∃ ss : List ByteArray, 0 = ss.length ∧ StrV w B none ss := ⟨[], rfl, StrV.nil w B⟩
  have lowR : ∀ (X : Nat), X < B → low' B (some ⟨X, 0, none⟩) 1 := fun X hX => ⟨fun _ c off e => (by simp at e; omega), fun e => (by cases e), by decide⟩
  have seg : ∀ (X : Nat) (cs : List Value) (t : TypeId), w.heap[X]? = some (.cells cs.toArray t (0, 0)) → View w (some ⟨X, 0, none⟩) cs := fun X cs t hX =>
    .inr ⟨X, 0, rfl, fun j v hj => by rw [Nat.zero_add]; exact cell_blk hX (by rw [List.getElem?_toArray]; exact hj)⟩
  have p1 : ∃ rs : List Rul, 1 = rs.length ∧ PolV w B (some ⟨R, 0, none⟩) rs := ⟨[⟨39, none, 0, [], 327680⟩], rfl, ⟨⟨seg R _ _ kR, fun x hx => by
    rw [List.mem_singleton.1 hx]; exact .inl rfl⟩, lowR R hR, fun x hx => by
    rw [List.mem_singleton.1 hx]
    exact ⟨⟨fun h => absurd h (Nat.lt_irrefl _), fun _ => rfl, Nat.zero_le _⟩, ⟨by decide, by decide⟩, ⟨by decide, by decide⟩, fun t ht => by cases ht⟩⟩⟩
  have s1 : ∃ ss : List ByteArray, 1 = ss.length ∧ StrV w B (some ⟨T, 0, none⟩) ss := ⟨[b], rfl, ⟨seg T _ _ kT, lowR T hT, fun x hx => by rw [List.mem_singleton.1 hx]; exact hb⟩⟩
  intro x hx
  simp only [exOps, List.mem_cons, List.not_mem_nil, or_false] at hx
  rcases hx with rfl | rfl | rfl | rfl | rfl | rfl | rfl | rfl | rfl
  · exact ⟨.inl rfl, fun _ _ _ e => (by cases e), fun _ => rfl, l0, fun x hx => (by cases hx), hb, n0, q0, p0, s0⟩
  · exact ⟨v1, hB _, fun e => (by cases e), l4, exL_ok, h0, n0, q0, p0, s0⟩
  · exact ⟨v1, hB _, fun e => (by cases e), l4, exL_ok, h0, n0, q0, p0, s0⟩
  · exact ⟨v2, hB _, fun e => (by cases e), l1, hk, h0, n0, q0, p0, s0⟩
  · exact ⟨v1, hB _, fun e => (by cases e), l4, exL_ok, hr, n0, q0, p0, s0⟩
  · exact ⟨.inl rfl, fun _ _ _ e => (by cases e), fun _ => rfl, l0, fun x hx => (by cases hx), hr, n0, q1, p1, s0⟩
  · exact ⟨.inl rfl, fun _ _ _ e => (by cases e), fun _ => rfl, l0, fun x hx => (by cases hx), h0, n0, q0, p0, s0⟩
  · exact ⟨.inl rfl, fun _ _ _ e => (by cases e), fun _ => rfl, l0, fun x hx => (by cases hx), h0, n0, q0, p0, s1⟩
  · exact ⟨.inl rfl, fun _ _ _ e => (by cases e), fun _ => rfl, l0, fun x hx => (by cases hx), hr, n0, q0, p0, s0⟩
theorem conv63 (w : World) : ∃ z : ByteArray, (convert 32 9 (.slice (some ⟨w.heap.size, 0, none⟩) 63 63)).run Tryz.prog (w.alloc (.cells z63 5)) = .ok (.string z) (w.alloc (.cells z63 5)) ∧ z.size = 63 := by
  have o : Own (w.alloc (.cells z63 5)) 5 1 (some ⟨w.heap.size, 0, none⟩) 63 63 (u8s (List.replicate 63 0)) :=
    ⟨by simp [u8s], .inr ⟨w.heap.size, 63, _, rfl, Nat.zero_le _, heap_alloc_new w _, by decide, by decide, by simp [z63], by simp [z63, u8s]⟩⟩
  exact ⟨_, conv_own _ _ _ _ _ o, by rw [toBA_size]; simp⟩

set_option maxRecDepth 100000 in
set_option maxHeartbeats 2000000 in
theorem example_any (w : World) (least last : Int) (hg : StepGood least last) :
    Calls Tryz.prog 8 #[.int .i64 least, .int .i64 last] w fun e w' => e = .returned (.bool true) ∧ Fr nob w w' := by
  have hmk : ∀ w, (Instr.makeSlice 32 (.int .i64 63) (.int .i64 63)).run Tryz.prog w = .ok (.slice (some ⟨w.heap.size, 0, none⟩) 63 63) (w.alloc (.cells z63 5)) := fun _ => by kernel_rfl
  go_enter Tryz.func8, Tryz.ntmps8
  go_wp2_with fail
  have f0 : Fr nob w (w.alloc (.cells (flat exL).toArray 29)) := (Fr.refl _ w).alloc _
  have o0 : Own (w.alloc (.cells (flat exL).toArray 29)) 29 4 (some ⟨w.heap.size, 0, none⟩) 4 4 (flat exL) :=
    ⟨rfl, .inr ⟨w.heap.size, 4, _, rfl, Nat.zero_le _, heap_alloc_new w _, by decide, by decide, rfl, rfl⟩⟩
  refine (rEncode_any _ (some ⟨w.heap.size, 0, none⟩) 4 exL (by decide) (own_view o0 (by simp)) exL_ok).mono ?_
  rintro e w1 ⟨rfl, f1⟩
  have F1 : Fr nob w w1 := f0.trans f1
  have o1 := own_fr o0 f1 (fun _ _ h => h)
  clear f0 o0 f1
  have hb32 : (toBA (enc exL)).size ≤ 10000000 := by rw [toBA_size, enc_len]; decide
  generalize toBA (enc exL) = b at hb32 ⊢
  obtain ⟨z, hcv, hz⟩ := conv63 w1
  have hz' : z.size ≤ 100 := by omega
  clear hz
  go_wp2_with fail
  have hr0 : (({ data := #[39] } : ByteArray) ++ z).size ≤ 10000000 := by rw [ByteArray.size_append]; show 1 + z.size ≤ _; omega
  generalize (({ data := #[39] } : ByteArray) ++ z) = r at hr0 ⊢
  clear hcv
  have F4 : Fr nob w (((w1.alloc (.cells z63 5)).alloc (.cells #[.int .u32 39, .slice none 0 0, .int .u32 327680] 35)).alloc (.cells #[.int .u32 0, .slice (some ⟨w1.heap.size + 1, 0, none⟩) 1 1, .int .u32 2147418112, .int .u32 0] 38)) := ((F1.alloc _).alloc _).alloc _
  have f14 : Fr nob w1 (((w1.alloc (.cells z63 5)).alloc (.cells #[.int .u32 39, .slice none 0 0, .int .u32 327680] 35)).alloc (.cells #[.int .u32 0, .slice (some ⟨w1.heap.size + 1, 0, none⟩) 1 1, .int .u32 2147418112, .int .u32 0] 38)) := (((Fr.refl _ w1).alloc _).alloc _).alloc _
  have o4 := own_fr o1 f14 (fun _ _ h => h)
  have k4 : (((w1.alloc (.cells z63 5)).alloc (.cells #[.int .u32 39, .slice none 0 0, .int .u32 327680] 35)).alloc (.cells #[.int .u32 0, .slice (some ⟨w1.heap.size + 1, 0, none⟩) 1 1, .int .u32 2147418112, .int .u32 0] 38)).heap[w1.heap.size + 1 + 1]? = some (.cells #[.int .u32 0, .slice (some ⟨w1.heap.size + 1, 0, none⟩) 1 1, .int .u32 2147418112, .int .u32 0] 38 (0, 0)) := by
    have := two_new (w1.alloc (.cells z63 5)) (.cells #[.int .u32 39, .slice none 0 0, .int .u32 327680] 35) (.cells #[.int .u32 0, .slice (some ⟨w1.heap.size + 1, 0, none⟩) 1 1, .int .u32 2147418112, .int .u32 0] 38)
    rw [World.size_alloc] at this; exact this
  have kR4 : (((w1.alloc (.cells z63 5)).alloc (.cells #[.int .u32 39, .slice none 0 0, .int .u32 327680] 35)).alloc (.cells #[.int .u32 0, .slice (some ⟨w1.heap.size + 1, 0, none⟩) 1 1, .int .u32 2147418112, .int .u32 0] 38)).heap[w1.heap.size + 1]? = some (.cells #[.int .u32 39, .slice none 0 0, .int .u32 327680] 35 (0, 0)) := by
    have := blk_alloc (o' := .cells #[.int .u32 0, .slice (some ⟨w1.heap.size + 1, 0, none⟩) 1 1, .int .u32 2147418112, .int .u32 0] 38) (heap_alloc_new (w1.alloc (.cells z63 5)) (.cells #[.int .u32 39, .slice none 0 0, .int .u32 327680] 35))
    rw [World.size_alloc] at this; exact this
  generalize (((w1.alloc (.cells z63 5)).alloc (.cells #[.int .u32 39, .slice none 0 0, .int .u32 327680] 35)).alloc (.cells #[.int .u32 0, .slice (some ⟨w1.heap.size + 1, 0, none⟩) 1 1, .int .u32 2147418112, .int .u32 0] 38)) = w4 at F4 f14 o4 k4 kR4 ⊢
  have p0 : w4.cell? ⟨w1.heap.size + 1 + 1, 0, none⟩ = some (.int .u32 0) := cell_blk k4 rfl
  have p1 : w4.cell? ⟨w1.heap.size + 1 + 1, 1, none⟩ = some (.slice (some ⟨w1.heap.size + 1, 0, none⟩) 1 1) := cell_blk k4 rfl
  have p2 : w4.cell? ⟨w1.heap.size + 1 + 1, 2, none⟩ = some (.int .u32 2147418112) := cell_blk k4 rfl
  have p3 : w4.cell? ⟨w1.heap.size + 1 + 1, 3, none⟩ = some (.int .u32 0) := cell_blk k4 rfl
  clear o1 F1 f14
  go_region_held3 (fun w' => w'.cell? ⟨w1.heap.size + 1 + 1, 0, none⟩ = some (.int .u32 0) ∧ w'.cell? ⟨w1.heap.size + 1 + 1, 1, none⟩ = some (.slice (some ⟨w1.heap.size + 1, 0, none⟩) 1 1) ∧ w'.cell? ⟨w1.heap.size + 1 + 1, 2, none⟩ = some (.int .u32 2147418112) ∧ w'.cell? ⟨w1.heap.size + 1 + 1, 3, none⟩ = some (.int .u32 0)) (go_keep) (fail)
  have hA4 : w.heap.size < w4.heap.size := own_lt o4 (by simp [bk, Value.ownBlock])
  have hU : ∀ W : World, W.heap[w4.heap.size + 1]? = some (.cells (ocs (exOps w.heap.size (w1.heap.size + 1) w4.heap.size b r)).toArray 41 (0, 0)) → W.heap[w4.heap.size]? = some (.cells #[.string b] 9 (0, 0)) → Fr nob w4 W →
      Calls Tryz.prog 9 #[.slice (some ⟨w4.heap.size + 1, 0, none⟩) 9 9, .int .i64 least, .int .i64 last] W fun e w' => e = .returned (.int .i64 (-1)) ∧ Fr nob W w' := fun W hW hT fW =>
    upto_any W (some ⟨w4.heap.size + 1, 0, none⟩) 9 (exOps w.heap.size (w1.heap.size + 1) w4.heap.size b r) least last
      (.inr ⟨w4.heap.size + 1, 0, rfl, fun j v hj => by rw [Nat.zero_add]; exact cell_blk hW (by rw [List.getElem?_toArray]; exact hj)⟩)
      (exOps_len _ _ _ _ _)
      (fun o ho => (exOps_ok (own_fr o4 fW (fun _ _ h => h)) (by have := fW.size; omega) hb32 hr0 (Array.getElem?_eq_some_iff.1 (fW.heap kR4 (fun h => h))).1 (fW.heap kR4 (fun h => h)) (Array.getElem?_eq_some_iff.1 hT).1 hT o ho).P)
      (fun o _ h1 h2 w1 hs hA hl ho => hg _ o h1 h2 w1 hs hA hl ho)
  have HU := hide hU
  clear hU p0 p1 p2 p3 k4 o4 hg kR4
  go_wp2_with fail
  refine (HU.out _ ?u1 ?u3 ?u2).mono ?_
  case u1 => exact two_new w4 _ _
  case u3 => exact blk_alloc (heap_alloc_new w4 _)
  case u2 => exact ((((Fr.refl nob w4).alloc _).alloc _).like rfl rfl rfl rfl)
  rintro e w5 ⟨rfl, f5⟩
  have F5 : Fr nob w w5 := Fr.trans (by exact ((F4.alloc _).alloc _).like rfl rfl rfl rfl) f5
  clear F4 f5 HU
  go_wp2
  go_ret
  exact ⟨rfl, F5⟩

/-- A law of the form 'head && UpTo(script, least, last) == -1'. -/
theorem wires_any (w : World) (so : Option Addr) (cap : Nat) (ops : List OpR) (hv : View w so (ocs ops)) (hl : ops.length ≤ 1172812402926)
    (hok : ∀ o ∈ ops, o.okP w w.heap.size) :
    Calls Tryz.prog 3 #[.slice so ops.length cap] w fun e w' => e = .returned (.bool true) ∧ Fr nob w w' := by
  go_enter Tryz.func3, Tryz.ntmps3
  go_wp2_with fail
  refine (example_any _ 1 2 good_wire).mono ?_
  rintro e w1 ⟨rfl, f1⟩
  have hsz := f1.size
  go_wp2_with fail
  refine (upto_any w1 so cap ops 1 2 (hv.fr0 f1) hl (fun o ho => (hok o ho).up f1 hsz) (fun o _ h1 h2 w1 hs hA hl ho => good_wire _ o h1 h2 w1 hs hA hl ho)).mono ?_
  rintro e w2 ⟨rfl, f2⟩
  have F := f1.trans f2
  clear f1 f2
  go_wp2
  go_ret
  exact ⟨rfl, F⟩
#print axioms wires_any
end Go.Proofs.YtjgcfffepkmojaaGreat
