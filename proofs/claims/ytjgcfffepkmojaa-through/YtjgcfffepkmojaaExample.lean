import Derived.Test.YtjgcfffepkmojaaUpTo
namespace Go.Proofs.Ytjgcfffepkmojaa
open Go.RowKit
set_option linter.unusedVariables false

def z63 : Array Value := Array.replicate 63 (.int .u8 0)
def exL : List Ins := [⟨32, 0, 0, 0⟩, ⟨21, 0, 1, 39⟩, ⟨6, 0, 0, 0⟩, ⟨6, 0, 0, 2147418112⟩]

theorem exL_ok : ∀ x ∈ exL, x.ok := by
  intro x hx
  simp only [exL, List.mem_cons, List.not_mem_nil, or_false] at hx
  rcases hx with rfl | rfl | rfl | rfl <;> (refine ⟨⟨?_, ?_⟩, ⟨?_, ?_⟩, ⟨?_, ?_⟩, ⟨?_, ?_⟩⟩ <;> decide)
/-- The example's script: A: the instructions' block; b, r: the bytes, the record; R: the rules' block; T: the texts' block. -/
def exOps (A R T : Nat) (b r : ByteArray) : List OpR :=
  [⟨1, 0, none, 0, [], b, 0, none, 0, 0, 0, 0, none, 0, 0⟩, ⟨2, 0, some ⟨A, 0, none⟩, 4, exL, ⟨#[]⟩, 0, none, 0, 0, 0, 0, none, 0, 0⟩, ⟨3, 0, some ⟨A, 0, none⟩, 4, exL, ⟨#[]⟩, 0, none, 0, 0, 0, 0, none, 0, 0⟩,
   ⟨3, 0, some ⟨A, 0, none⟩, 4, exL.take 1, ⟨#[]⟩, 0, none, 0, 0, 0, 0, none, 0, 0⟩, ⟨4, 0, some ⟨A, 0, none⟩, 4, exL, r, 0, none, 0, 0, 0, 0, none, 0, 0⟩, ⟨5, 0, none, 0, [], r, 0, some ⟨R, 0, none⟩, 1, 1, 2147418112, 0, none, 0, 0⟩,
   ⟨6, 0, none, 0, [], ⟨#[]⟩, 0, none, 0, 0, 0, 0, none, 0, 0⟩, ⟨7, 0, none, 0, [], ⟨#[]⟩, 0, none, 0, 0, 0, 0, some ⟨T, 0, none⟩, 1, 1⟩, ⟨8, 0, none, 0, [], r, 0, none, 0, 0, 0, 0, none, 0, 0⟩]
theorem exOps_len (A R T : Nat) (b r : ByteArray) : (exOps A R T b r).length ≤ 10000000 := by show 9 ≤ 10000000; decide
theorem exOps_ok {w : World} {B A R T : Nat} {b r : ByteArray} (o : Own w 32 4 (some ⟨A, 0, none⟩) 4 4 (flat exL)) (hA : A < B) (hb : b.size ≤ 10000000) (hr : r.size ≤ 10000000)
    (hR : R < B) (kR : w.heap[R]? = some (.cells #[.int .u32 39, .slice none 0 0, .int .u32 327680] 54 (0, 0))) (hT : T < B) (kT : w.heap[T]? = some (.cells #[.string b] 9 (0, 0))) : ∀ x ∈ exOps A R T b r, x.ok w B := by
  have v1 : View w (some ⟨A, 0, none⟩) (flat exL) := own_view o (by simp)
  have v2 : View w (some ⟨A, 0, none⟩) (flat (exL.take 1)) := own_view o rfl
  have h0 : (ByteArray.mk #[]).size ≤ 10000000 := by decide
  have l4 : exL.length ≤ 10000000 := by decide
  have l1 : (exL.take 1).length ≤ 10000000 := by decide
  have l0 : ([] : List Ins).length ≤ 10000000 := by decide
  have hk : ∀ x ∈ exL.take 1, x.ok := fun x hx => exL_ok x (List.mem_of_mem_take hx)
  have hB : ∀ l : List Ins, l ≠ [] → ∀ c off, (some ⟨A, 0, none⟩ : Option Addr) = some ⟨c, off, none⟩ → c < B := fun _ _ c off e => by simp at e; omega
  have n0 : I64 0 := ⟨by decide, by decide⟩
  have u0 : U32 0 := ⟨by decide, by decide⟩
  have q0 : U32 0 ∧ U32 0 ∧ U32 0 := ⟨u0, u0, u0⟩
  have q1 : U32 0 ∧ U32 2147418112 ∧ U32 0 := ⟨u0, ⟨by decide, by decide⟩, u0⟩
  have p0 : ∃ rs : List Rul, 0 = rs.length ∧ PolV w B none rs := ⟨[], rfl, PolV.nil w B⟩
  have s0 : ∃ ss : List ByteArray, 0 = ss.length ∧ StrV w B none ss := ⟨[], rfl, StrV.nil w B⟩
  have lowR : ∀ (X : Nat), X < B → low' B (some ⟨X, 0, none⟩) 1 := fun X hX => ⟨fun _ c off e => (by simp at e; omega), fun e => (by cases e), by decide⟩
  have seg : ∀ (X : Nat) (cs : List Value) (t : TypeId), w.heap[X]? = some (.cells cs.toArray t (0, 0)) → View w (some ⟨X, 0, none⟩) cs := fun X cs t hX =>
    .inr ⟨X, 0, rfl, fun j v hj => by rw [Nat.zero_add]; exact cell_blk hX (by rw [List.getElem?_toArray]; exact hj)⟩
  have p1 : ∃ rs : List Rul, 1 = rs.length ∧ PolV w B (some ⟨R, 0, none⟩) rs := ⟨[⟨39, none, 0, [], 327680⟩], rfl, ⟨⟨seg R _ _ kR, fun x hx => by
    rw [List.mem_singleton.1 hx]; exact .inl rfl⟩, lowR R hR, fun x hx => by
    rw [List.mem_singleton.1 hx]
    exact ⟨⟨fun h => absurd h (Nat.lt_irrefl _), fun _ => rfl, Nat.zero_le _⟩, ⟨by decide, by decide⟩, ⟨by decide, by decide⟩, fun t ht => by cases ht⟩⟩⟩
  have s1 : ∃ ss : List ByteArray, 1 = ss.length ∧ StrV w B (some ⟨T, 0, none⟩) ss := ⟨[b], rfl, ⟨seg T _ _ kT, lowR T hT, fun x hx => by rw [List.mem_singleton.1 hx]; exact hb⟩⟩
  intro x hx
  simp only [exOps, List.mem_cons, List.not_mem_nil, or_false] at hx
  rcases hx with rfl | rfl | rfl | rfl | rfl | rfl | rfl | rfl | rfl
  · exact ⟨.inl rfl, fun _ _ _ e => (by cases e), fun _ => rfl, l0, fun x hx => (by cases hx), hb, n0, q0, p0, s0⟩
  · exact ⟨v1, hB _, fun e => (by cases e), l4, exL_ok, h0, n0, q0, p0, s0⟩
  · exact ⟨v1, hB _, fun e => (by cases e), l4, exL_ok, h0, n0, q0, p0, s0⟩
  · exact ⟨v2, hB _, fun e => (by cases e), l1, hk, h0, n0, q0, p0, s0⟩
  · exact ⟨v1, hB _, fun e => (by cases e), l4, exL_ok, hr, n0, q0, p0, s0⟩
  · exact ⟨.inl rfl, fun _ _ _ e => (by cases e), fun _ => rfl, l0, fun x hx => (by cases hx), hr, n0, q1, p1, s0⟩
  · exact ⟨.inl rfl, fun _ _ _ e => (by cases e), fun _ => rfl, l0, fun x hx => (by cases hx), h0, n0, q0, p0, s0⟩
  · exact ⟨.inl rfl, fun _ _ _ e => (by cases e), fun _ => rfl, l0, fun x hx => (by cases hx), h0, n0, q0, p0, s1⟩
  · exact ⟨.inl rfl, fun _ _ _ e => (by cases e), fun _ => rfl, l0, fun x hx => (by cases hx), hr, n0, q0, p0, s0⟩
theorem conv63 (w : World) : ∃ z : ByteArray, (convert 59 9 (.slice (some ⟨w.heap.size, 0, none⟩) 63 63)).run Try.prog (w.alloc (.cells z63 5)) = .ok (.string z) (w.alloc (.cells z63 5)) ∧ z.size = 63 := by
  have o : Own (w.alloc (.cells z63 5)) 5 1 (some ⟨w.heap.size, 0, none⟩) 63 63 (u8s (List.replicate 63 0)) :=
    ⟨by simp [u8s], .inr ⟨w.heap.size, 63, _, rfl, Nat.zero_le _, heap_alloc_new w _, by decide, by decide, by simp [z63], by simp [z63, u8s]⟩⟩
  exact ⟨_, conv_own _ _ _ _ _ o, by rw [toBA_size]; simp⟩

end Go.Proofs.Ytjgcfffepkmojaa
