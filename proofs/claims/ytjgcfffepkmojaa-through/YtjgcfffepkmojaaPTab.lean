import Derived.Laws.ByValue
import Derived.Laws.Tables
import Derived.Laws.Rows
import Derived.Deep.DeepCutAuto
import Derived.Test.YtjgcfffepkmojaaMach
namespace Go.Proofs.Ytjgcfffepkmojaa
open Go.RowKit
set_option linter.unusedVariables false

/-- A call of what a slot holds. -/
theorem wpList_byValue {P : Program} {ops : Array Oper} {Q : Exit → Act → World → Prop} {a : Act} {w : World} {rest : List Oper} {dst : Option Tmp} {g : Operand} {xs : Array Operand} {ats : Array TypeId} {ty : TypeId} {pos : String} {after : Array Edge}
    (F : Fn) (f : FuncId) (args args0 : Array Value) (hv : a.eval g = .func F #[] #[]) (ha : xs.map a.eval = args0) (hinv : (invoke (.fn F #[]) args0).run P w = .ok (.enter f args) w)
    (hc : Calls P f args w fun e w' => ∃ v, e = .returned v ∧ wpList P ops Q rest (a.put dst v) w') :
    wpList P ops Q ({ dst, op := .call { callee := .value g, args := xs, argTypes := ats }, type := ty, pos, after, guard := none } :: rest) a w := by
  refine wpList_plain rfl (fun K hK => ?_)
  have he : (execOp a.eval { dst, op := .call { callee := .value g, args := xs, argTypes := ats }, type := ty, pos, after, guard := none }).run P w = .ok (.enter f args) w := by
    have h0 : (#[] : Array Value) ++ args0 = args0 := Array.empty_append
    rw [← hinv]
    simp only [execOp, resolve, hv, Deferred.ofValue, ha]
    show (invoke (.fn F #[]) (#[] ++ args0)).run P w = _
    rw [h0]
  unfold Oper.wp
  rw [he, Oper.upon_enter]
  refine hc.mono ?_
  rintro e w' ⟨v, rfl, h⟩
  exact hK _ _ h

/-- The table. -/
def tab : Array Value := #[.func (.methodOf 92 "sluice/machine.loadK") #[] #[], .func (.methodOf 92 "sluice/machine.loadXK") #[] #[], .func (.methodOf 92 "sluice/machine.store") #[] #[], .func (.methodOf 92 "sluice/machine.storeX") #[] #[], .func (.methodOf 92 "sluice/machine.add") #[] #[], .func (.func 74) #[] #[],
  .func (.func 79) #[] #[], .func (.methodOf 92 "sluice/machine.toX") #[] #[], .nilFunc, .nilFunc, .nilFunc, .nilFunc,
  .func (.methodOf 92 "sluice/machine.add") #[] #[], .nilFunc, .nilFunc, .nilFunc, .nilFunc, .nilFunc,
  .nilFunc, .nilFunc, .func (.methodOf 92 "sluice/machine.sub") #[] #[], .func (.func 75) #[] #[], .func (.func 80) #[] #[], .nilFunc,
  .nilFunc, .nilFunc, .nilFunc, .nilFunc, .func (.methodOf 92 "sluice/machine.sub") #[] #[], .func (.func 75) #[] #[],
  .nilFunc, .nilFunc, .func (.func 54) #[] #[], .nilFunc, .nilFunc, .nilFunc,
  .func (.methodOf 92 "sluice/machine.mul") #[] #[], .func (.func 76) #[] #[], .nilFunc, .nilFunc, .nilFunc, .nilFunc,
  .nilFunc, .nilFunc, .func (.methodOf 92 "sluice/machine.mul") #[] #[], .func (.func 76) #[] #[], .nilFunc, .nilFunc,
  .nilFunc, .nilFunc, .nilFunc, .nilFunc, .func (.func 66) #[] #[], .func (.func 77) #[] #[],
  .nilFunc, .nilFunc, .nilFunc, .nilFunc, .nilFunc, .nilFunc,
  .func (.func 66) #[] #[], .func (.func 77) #[] #[], .nilFunc, .nilFunc, .nilFunc, .nilFunc,
  .nilFunc, .nilFunc, .func (.methodOf 92 "sluice/machine.or") #[] #[], .func (.func 78) #[] #[], .nilFunc, .nilFunc,
  .nilFunc, .nilFunc, .nilFunc, .nilFunc, .func (.methodOf 92 "sluice/machine.or") #[] #[], .func (.func 78) #[] #[],
  .nilFunc, .nilFunc, .nilFunc, .nilFunc, .nilFunc, .nilFunc,
  .func (.methodOf 92 "sluice/machine.and") #[] #[], .nilFunc, .nilFunc, .nilFunc, .nilFunc, .nilFunc,
  .nilFunc, .nilFunc, .func (.methodOf 92 "sluice/machine.and") #[] #[], .nilFunc, .nilFunc, .nilFunc,
  .func (.methodOf 92 "sluice/machine.loadCell") #[] #[], .func (.methodOf 92 "sluice/machine.loadX") #[] #[], .nilFunc, .nilFunc, .func (.methodOf 92 "sluice/machine.shl") #[] #[], .nilFunc,
  .nilFunc, .nilFunc, .nilFunc, .nilFunc, .nilFunc, .nilFunc,
  .func (.methodOf 92 "sluice/machine.shl") #[] #[], .nilFunc, .nilFunc, .nilFunc, .nilFunc, .nilFunc,
  .nilFunc, .nilFunc, .func (.methodOf 92 "sluice/machine.shr") #[] #[], .nilFunc, .nilFunc, .nilFunc,
  .nilFunc, .nilFunc, .nilFunc, .nilFunc, .func (.methodOf 92 "sluice/machine.shr") #[] #[], .nilFunc,
  .nilFunc, .nilFunc, .func (.methodOf 92 "sluice/machine.loadLen") #[] #[], .func (.methodOf 92 "sluice/machine.loadXLen") #[] #[], .nilFunc, .nilFunc,
  .func (.methodOf 92 "sluice/machine.neg") #[] #[], .nilFunc, .nilFunc, .func (.methodOf 92 "sluice/machine.fromX") #[] #[], .nilFunc, .nilFunc,
  .nilFunc, .nilFunc, .nilFunc, .nilFunc, .nilFunc, .nilFunc,
  .nilFunc, .nilFunc, .nilFunc, .nilFunc, .func (.func 71) #[] #[], .nilFunc,
  .nilFunc, .nilFunc, .nilFunc, .nilFunc, .nilFunc, .nilFunc,
  .func (.func 71) #[] #[], .nilFunc, .nilFunc, .nilFunc, .nilFunc, .nilFunc,
  .nilFunc, .nilFunc, .func (.methodOf 92 "sluice/machine.xor") #[] #[], .nilFunc, .nilFunc, .nilFunc,
  .nilFunc, .nilFunc, .nilFunc, .nilFunc, .func (.methodOf 92 "sluice/machine.xor") #[] #[]]

theorem inv_loadK (w : World) (g : Nat) (x : Value) : (invoke (.fn (.methodOf 92 "sluice/machine.loadK") #[]) #[.pointer (some ⟨g, 0, none⟩), x]).run Try.prog w = .ok (.enter 52 #[.pointer (some ⟨g, 0, none⟩), x]) w := by kernel_rfl
theorem inv_loadXK (w : World) (g : Nat) (x : Value) : (invoke (.fn (.methodOf 92 "sluice/machine.loadXK") #[]) #[.pointer (some ⟨g, 0, none⟩), x]).run Try.prog w = .ok (.enter 53 #[.pointer (some ⟨g, 0, none⟩), x]) w := by kernel_rfl
theorem inv_loadAt (w : World) (g : Nat) (x : Value) : (invoke (.fn (.func 54) #[]) #[.pointer (some ⟨g, 0, none⟩), x]).run Try.prog w = .ok (.enter 54 #[.pointer (some ⟨g, 0, none⟩), x]) w := by kernel_rfl
theorem inv_loadCell (w : World) (g : Nat) (x : Value) : (invoke (.fn (.methodOf 92 "sluice/machine.loadCell") #[]) #[.pointer (some ⟨g, 0, none⟩), x]).run Try.prog w = .ok (.enter 55 #[.pointer (some ⟨g, 0, none⟩), x]) w := by kernel_rfl
theorem inv_loadX (w : World) (g : Nat) (x : Value) : (invoke (.fn (.methodOf 92 "sluice/machine.loadX") #[]) #[.pointer (some ⟨g, 0, none⟩), x]).run Try.prog w = .ok (.enter 56 #[.pointer (some ⟨g, 0, none⟩), x]) w := by kernel_rfl
theorem inv_loadLen (w : World) (g : Nat) (x : Value) : (invoke (.fn (.methodOf 92 "sluice/machine.loadLen") #[]) #[.pointer (some ⟨g, 0, none⟩), x]).run Try.prog w = .ok (.enter 57 #[.pointer (some ⟨g, 0, none⟩), x]) w := by kernel_rfl
theorem inv_loadXLen (w : World) (g : Nat) (x : Value) : (invoke (.fn (.methodOf 92 "sluice/machine.loadXLen") #[]) #[.pointer (some ⟨g, 0, none⟩), x]).run Try.prog w = .ok (.enter 58 #[.pointer (some ⟨g, 0, none⟩), x]) w := by kernel_rfl
theorem inv_store (w : World) (g : Nat) (x : Value) : (invoke (.fn (.methodOf 92 "sluice/machine.store") #[]) #[.pointer (some ⟨g, 0, none⟩), x]).run Try.prog w = .ok (.enter 59 #[.pointer (some ⟨g, 0, none⟩), x]) w := by kernel_rfl
theorem inv_storeX (w : World) (g : Nat) (x : Value) : (invoke (.fn (.methodOf 92 "sluice/machine.storeX") #[]) #[.pointer (some ⟨g, 0, none⟩), x]).run Try.prog w = .ok (.enter 60 #[.pointer (some ⟨g, 0, none⟩), x]) w := by kernel_rfl
theorem inv_toX (w : World) (g : Nat) (x : Value) : (invoke (.fn (.methodOf 92 "sluice/machine.toX") #[]) #[.pointer (some ⟨g, 0, none⟩), x]).run Try.prog w = .ok (.enter 61 #[.pointer (some ⟨g, 0, none⟩), x]) w := by kernel_rfl
theorem inv_fromX (w : World) (g : Nat) (x : Value) : (invoke (.fn (.methodOf 92 "sluice/machine.fromX") #[]) #[.pointer (some ⟨g, 0, none⟩), x]).run Try.prog w = .ok (.enter 62 #[.pointer (some ⟨g, 0, none⟩), x]) w := by kernel_rfl
theorem inv_add (w : World) (g : Nat) (x : Value) : (invoke (.fn (.methodOf 92 "sluice/machine.add") #[]) #[.pointer (some ⟨g, 0, none⟩), x]).run Try.prog w = .ok (.enter 63 #[.pointer (some ⟨g, 0, none⟩), x]) w := by kernel_rfl
theorem inv_sub (w : World) (g : Nat) (x : Value) : (invoke (.fn (.methodOf 92 "sluice/machine.sub") #[]) #[.pointer (some ⟨g, 0, none⟩), x]).run Try.prog w = .ok (.enter 64 #[.pointer (some ⟨g, 0, none⟩), x]) w := by kernel_rfl
theorem inv_mul (w : World) (g : Nat) (x : Value) : (invoke (.fn (.methodOf 92 "sluice/machine.mul") #[]) #[.pointer (some ⟨g, 0, none⟩), x]).run Try.prog w = .ok (.enter 65 #[.pointer (some ⟨g, 0, none⟩), x]) w := by kernel_rfl
theorem inv_div (w : World) (g : Nat) (x : Value) : (invoke (.fn (.func 66) #[]) #[.pointer (some ⟨g, 0, none⟩), x]).run Try.prog w = .ok (.enter 66 #[.pointer (some ⟨g, 0, none⟩), x]) w := by kernel_rfl
theorem inv_or (w : World) (g : Nat) (x : Value) : (invoke (.fn (.methodOf 92 "sluice/machine.or") #[]) #[.pointer (some ⟨g, 0, none⟩), x]).run Try.prog w = .ok (.enter 67 #[.pointer (some ⟨g, 0, none⟩), x]) w := by kernel_rfl
theorem inv_and (w : World) (g : Nat) (x : Value) : (invoke (.fn (.methodOf 92 "sluice/machine.and") #[]) #[.pointer (some ⟨g, 0, none⟩), x]).run Try.prog w = .ok (.enter 68 #[.pointer (some ⟨g, 0, none⟩), x]) w := by kernel_rfl
theorem inv_shl (w : World) (g : Nat) (x : Value) : (invoke (.fn (.methodOf 92 "sluice/machine.shl") #[]) #[.pointer (some ⟨g, 0, none⟩), x]).run Try.prog w = .ok (.enter 69 #[.pointer (some ⟨g, 0, none⟩), x]) w := by kernel_rfl
theorem inv_shr (w : World) (g : Nat) (x : Value) : (invoke (.fn (.methodOf 92 "sluice/machine.shr") #[]) #[.pointer (some ⟨g, 0, none⟩), x]).run Try.prog w = .ok (.enter 70 #[.pointer (some ⟨g, 0, none⟩), x]) w := by kernel_rfl
theorem inv_mod (w : World) (g : Nat) (x : Value) : (invoke (.fn (.func 71) #[]) #[.pointer (some ⟨g, 0, none⟩), x]).run Try.prog w = .ok (.enter 71 #[.pointer (some ⟨g, 0, none⟩), x]) w := by kernel_rfl
theorem inv_xor (w : World) (g : Nat) (x : Value) : (invoke (.fn (.methodOf 92 "sluice/machine.xor") #[]) #[.pointer (some ⟨g, 0, none⟩), x]).run Try.prog w = .ok (.enter 72 #[.pointer (some ⟨g, 0, none⟩), x]) w := by kernel_rfl
theorem inv_neg (w : World) (g : Nat) (x : Value) : (invoke (.fn (.methodOf 92 "sluice/machine.neg") #[]) #[.pointer (some ⟨g, 0, none⟩), x]).run Try.prog w = .ok (.enter 73 #[.pointer (some ⟨g, 0, none⟩), x]) w := by kernel_rfl
theorem inv_jump (w : World) (g : Nat) (x : Value) : (invoke (.fn (.func 74) #[]) #[.pointer (some ⟨g, 0, none⟩), x]).run Try.prog w = .ok (.enter 74 #[.pointer (some ⟨g, 0, none⟩), x]) w := by kernel_rfl
theorem inv_ifEqual (w : World) (g : Nat) (x : Value) : (invoke (.fn (.func 75) #[]) #[.pointer (some ⟨g, 0, none⟩), x]).run Try.prog w = .ok (.enter 75 #[.pointer (some ⟨g, 0, none⟩), x]) w := by kernel_rfl
theorem inv_ifMore (w : World) (g : Nat) (x : Value) : (invoke (.fn (.func 76) #[]) #[.pointer (some ⟨g, 0, none⟩), x]).run Try.prog w = .ok (.enter 76 #[.pointer (some ⟨g, 0, none⟩), x]) w := by kernel_rfl
theorem inv_ifLeast (w : World) (g : Nat) (x : Value) : (invoke (.fn (.func 77) #[]) #[.pointer (some ⟨g, 0, none⟩), x]).run Try.prog w = .ok (.enter 77 #[.pointer (some ⟨g, 0, none⟩), x]) w := by kernel_rfl
theorem inv_ifBits (w : World) (g : Nat) (x : Value) : (invoke (.fn (.func 78) #[]) #[.pointer (some ⟨g, 0, none⟩), x]).run Try.prog w = .ok (.enter 78 #[.pointer (some ⟨g, 0, none⟩), x]) w := by kernel_rfl
theorem inv_retK (w : World) (g : Nat) (x : Value) : (invoke (.fn (.func 79) #[]) #[.pointer (some ⟨g, 0, none⟩), x]).run Try.prog w = .ok (.enter 79 #[.pointer (some ⟨g, 0, none⟩), x]) w := by kernel_rfl
theorem inv_retA (w : World) (g : Nat) (x : Value) : (invoke (.fn (.func 80) #[]) #[.pointer (some ⟨g, 0, none⟩), x]).run Try.prog w = .ok (.enter 80 #[.pointer (some ⟨g, 0, none⟩), x]) w := by kernel_rfl

theorem wpList_makeFn {P : Program} {ops : Array Oper} {Q : Exit → Act → World → Prop} {a : Act} {w : World} {rest : List Oper} {dst : Option Tmp} {fn : Fn} {ty : TypeId} {pos : String} {after : Array Edge}
    (h : wpList P ops Q rest (a.put dst (.func fn #[] #[])) w) : wpList P ops Q ({ dst, op := .makeFunc fn #[] #[], type := ty, pos, after, guard := none } :: rest) a w :=
  wpList_plain rfl fun K hK => by
    have := hK _ _ h
    simpa [Oper.wp, execOp, Instr.makeFunc, go_sem] using this
set_option maxRecDepth 100000 in
set_option maxHeartbeats 2000000 in
theorem effects_any (w : World) : Calls Try.prog 35 #[] w fun e w' => e = .returned (.agg tab) ∧ Fr nob w w' := by
  have k0 : (w.alloc (.cells Try.zeroCells85 85)).heap[w.heap.size]? = some (.cells Try.zeroCells85 85 (0, 0)) := heap_alloc_new w _
  have K0 := hide k0
  clear k0
  go_enter Try.func35, Try.ntmps35
  go_upto_region 1 with fail
  rename_i K hK
  refine wp_region_lit ?_
  repeat (refine wpList_makeFn ?_)
  refine wpList_build rfl 85 _ rfl (by kernel_rfl) ?_
  refine wpList_store_row rfl 85 _ _ rfl w.heap.size tab (by kernel_rfl) (by kernel_rfl) 85 Try.zeroCells85 K0.out (by kernel_rfl) (by kernel_rfl) (by kernel_rfl) ?_
  refine wpList_nil ?_
  refine hK _ _ ?_
  have f1 : Fr nob w ((w.alloc (.cells Try.zeroCells85 85)).setRow w.heap.size tab) := by
    have f0 := (Fr.refl nob w).alloc (.cells Try.zeroCells85 85)
    refine ⟨f0.os, f0.tape, f0.output, by rw [setRow_size]; exact f0.size, fun k hk hS => ?_⟩
    rw [setRow_other _ _ _ _ (by omega)]
    exact f0.block k hk hS
  refine wp_ret ?_
  refine bodyPost_ret (v := .agg tab) ?_ ?_ ?_
  · exact results_cell_row Try.results35 _ _ w.heap.size 85 tab (0, 0) _ (by kernel_rfl) (setRow_heap _ _ _ _ _ _ K0.out) Try.underlying85 rfl (by kernel_rfl)
  · kernel_rfl
  · exact ⟨rfl, f1⟩
end Go.Proofs.Ytjgcfffepkmojaa
