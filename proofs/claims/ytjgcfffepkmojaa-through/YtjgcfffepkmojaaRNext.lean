import Derived.Test.YtjgcfffepkmojaaKinds
import Derived.Test.YtjgcfffepkmojaaGood
import Derived.Test.YtjgcfffepkmojaaStill
namespace Go.Proofs.Ytjgcfffepkmojaa
open Go.RowKit
set_option linter.unusedVariables false

/-- Where the reference goes on. -/
def nxS (s : ByteArray) (t : Bool) (n : Int) (x : Ins) : List Int :=
  if s.toList = [114, 101, 116, 107] ∨ s.toList = [114, 101, 116, 97] then [] else if s.toList = [106, 117, 109, 112] then [n + 1 + x.k] else if t = true then [n + 1 + x.jt, n + 1 + x.jf] else [n + 1]
def ivs (l : List Int) : List Value := l.map (fun v => .int .i64 v)
theorem view_new (w : World) (xs : List Value) (t : TypeId) : View (w.alloc (.cells xs.toArray t)) (some ⟨w.heap.size, 0, none⟩) xs := by
  refine .inr ⟨_, _, rfl, fun j v hj => ?_⟩
  rw [Nat.zero_add]
  exact cell_blk (heap_alloc_new w _) (by simpa using hj)
theorem view_new2 (w : World) (o : Obj) (xs : List Value) (t : TypeId) : View ((w.alloc o).alloc (.cells xs.toArray t)) (some ⟨w.heap.size + 1, 0, none⟩) xs := by
  have := view_new (w.alloc o) xs t
  rw [show (w.alloc o).heap.size = w.heap.size + 1 by simp] at this
  exact this
/-- By the name: where it goes on. -/
theorem nx_cls (s : ByteArray) (y : Bool) (n : Nat) (x : Ins) (hk : cls s.toList y = knd x.code) (hx : x.ok) :
    nxS s (tstS s) n x = (if knd x.code = 9 then [] else if knd x.code = 2 then [n + 1 + x.k.toNat] else if knd x.code = 3 then [n + 1 + x.jt.toNat, n + 1 + x.jf.toNat] else [n + 1]).map (fun t : Nat => (t : Int)) := by
  have e1 : ((n + 1 + x.k.toNat : Nat) : Int) = (n : Int) + 1 + x.k := by have := hx.2.2.2.1; omega
  have e2 : ((n + 1 + x.jt.toNat : Nat) : Int) = (n : Int) + 1 + x.jt := by have := hx.2.1.1; omega
  have e3 : ((n + 1 + x.jf.toNat : Nat) : Int) = (n : Int) + 1 + x.jf := by have := hx.2.2.1.1; omega
  have e4 : ((n + 1 : Nat) : Int) = (n : Int) + 1 := by omega
  rw [← hk]
  unfold nxS cls tstS
  generalize s.toList = l
  by_cases h0 : l = []
  · subst h0; simp
  by_cases h1 : l = [106, 117, 109, 112]
  · subst h1; simp; omega
  by_cases h2 : l = [105, 102, 61]
  · subst h2; simp; omega
  by_cases h3 : l = [105, 102, 62]
  · subst h3; simp; omega
  by_cases h4 : l = [105, 102, 62, 61]
  · subst h4; simp; omega
  by_cases h5 : l = [105, 102, 38]
  · subst h5; simp; omega
  by_cases h14 : l = [114, 101, 116, 107]
  · subst h14; simp
  by_cases h15 : l = [114, 101, 116, 97]
  · subst h15; simp
  simp only [h0, h1, h2, h3, h4, h5, h14, h15, or_self, if_false]
  by_cases h6 : l = [97, 61, 97, 116]
  · subst h6; simp
  simp only [h6, if_false]
  by_cases h7 : l = [97, 61, 99, 101, 108, 108] ∨ l = [120, 61, 99, 101, 108, 108]
  · simp [h7, h2, h3, h4, h5]
  simp only [h7, if_false]
  by_cases h9 : l = [99, 101, 108, 108, 61, 97] ∨ l = [99, 101, 108, 108, 61, 120]
  · simp [h9, h2, h3, h4, h5]
  simp only [h9, if_false]
  by_cases h11 : (l = [47] ∨ l = [37]) ∧ y = false
  · simp [h11, h2, h3, h4, h5]
  simp only [h11, if_false]
  by_cases h13 : (l = [60, 60] ∨ l = [62, 62]) ∧ y = false
  · simp [h13, h2, h3, h4, h5]
  simp only [h13, if_false]
  simp [h2, h3, h4, h5]
end Go.Proofs.Ytjgcfffepkmojaa
