import Derived.Test.YtfniofpeilgnnaaMarks
import Derived.Test.YtfniofpeilgnnaaAppend
import Derived.Deep.RegionHeld3
import Derived.Deep.DeepCutAuto
namespace Go.Proofs.Ytfniofpeilgnnaa
open Go.RowKit
set_option linter.unusedVariables false

theorem info_u8 : (Try.prog.info? 5).map (fun i => (i.zero, i.size, i.bytes)) = some (some (.int .u8 0), 1, 1) := by kernel_rfl
theorem info_insn : (Try.prog.info? 32).map (fun i => (i.zero, i.size, i.bytes)) = some (some (.agg #[.int .u16 0, .int .u8 0, .int .u8 0, .int .u32 0]), 4, 8) := by kernel_rfl
theorem info_rule : (Try.prog.info? 54).map (fun i => (i.zero, i.size, i.bytes)) = some (some (.agg #[.int .u32 0, .slice none 0 0, .int .u32 0]), 3, 40) := by kernel_rfl
theorem info_test : (Try.prog.info? 56).map (fun i => (i.zero, i.size, i.bytes)) = some (some (.agg #[.int .i64 0, .int .i64 0, .int .u64 0, .int .u64 0]), 4, 32) := by kernel_rfl

theorem Fr.drewN {S : Nat → Prop} {a w : World} (h : Fr S a w) (n : Nat) : Fr S a (w.drewN n) := ⟨h.os, h.tape, h.output, h.size, h.block⟩
def nilS : Sl := ⟨none, 0, 0, []⟩

/-- The new slice lies where the old one lies, or in a block that is new. -/
def Lie (w : World) (s s' : Sl) : Prop := ∀ k, bk (.slice s'.a s'.n s'.c) k → bk (.slice s.a s.n s.c) k ∨ w.heap.size ≤ k
theorem lie_nil (w : World) (s : Sl) : Lie w s nilS := fun k hk => by simp [bk, nilS, Value.ownBlock] at hk
theorem lie_some {w : World} {s : Sl} {g n c H : Nat} {xs : List Value} (h : bk (.slice s.a s.n s.c) g ∨ g = H) (hH : w.heap.size ≤ H) : Lie w s ⟨some ⟨g, 0, none⟩, n, c, xs⟩ := fun k hk => by
  simp only [bk, Value.ownBlock, Option.some.injEq] at hk
  subst hk
  rcases h with h | h
  · exact .inl h
  · exact .inr (by omega)

theorem own_keep {wc w1 : World} {el : Obj} {e e' : TypeId} {size size' : Nat} {v v' : Value} {n n' : Nat} {xs xs' : List Value} (h : wc.ownsRow 0 e size v n xs) (hs : wc.ownsRow 0 e' size' v' n' xs') (ne : e ≠ e')
    (f : Fr (bk v') (wc.alloc el) w1) : w1.ownsRow 0 e size v n xs :=
  own_fr (h.alloc el) f (fun k hk => own_apart (h.alloc el) (hs.alloc el) ne k hk)
theorem own_put {w1 : World} {e t : TypeId} {size gb j : Nat} {v u : Value} {n : Nat} {xs : List Value} {c : Array Value} {f : Nat × Nat} (h : w1.ownsRow 0 e size v n xs) (hg : w1.heap[gb]? = some (.cells c t f)) (ne : e ≠ t) :
    (w1.setCell ⟨gb, j, none⟩ u).ownsRow 0 e size v n xs :=
  own_fr h (fr_set w1 gb j u) (fun k hk hk' => own_ne h (by rw [← hk'] at hg; exact hg) ne hk)
theorem blk_alloc {w : World} {o o' : Obj} {k : Nat} (h : w.heap[k]? = some o) : (w.alloc o').heap[k]? = some o := (Below.heap_alloc w o' k (Array.getElem?_eq_some_iff.1 h).1).trans h
theorem blk_put {w1 : World} {gb j k : Nat} {u : Value} {o : Obj} (h : w1.heap[k]? = some o) (hne : k ≠ gb) : (w1.setCell ⟨gb, j, none⟩ u).heap[k]? = some o := (fr_set w1 gb j u).heap h hne

section
variable {w : World} {hb gb : Nat} {m : Int} {b i r t b' i' r' t' : Sl} {wc w1 : World} {el : Obj} {g cap' : Nat} {x : List Value}
end

theorem Fr.undrew {S : Nat → Prop} {a w : World} (h : Fr S a.drew w) : Fr S a w := ⟨h.os, h.tape, h.output, h.size, h.block⟩
theorem one_of (l : List Value) (h : l.all Value.oneCell' = true) : ∀ u ∈ l, u.oneCell' = true := fun u hu => List.all_eq_true.1 h u hu

theorem wrapI64n (m : Int) (h0 : 0 ≤ m) (h1 : m ≤ 1000000000) : IntKind.i64.wrap (-m) = -m := by
  simp [IntKind.wrap_i64]; omega
theorem wrapU32 (m : Int) (h0 : 0 ≤ m) (h1 : m ≤ 1000000000) : IntKind.u32.wrap m = m := by
  simp [IntKind.wrap, IntKind.bits, IntKind.signed]; omega
end Go.Proofs.Ytfniofpeilgnnaa
