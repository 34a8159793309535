import Derived.Laws.ByValue
import Derived.Laws.Tables
import Derived.Laws.Rows
import Derived.Deep.DeepCutAuto
import Derived.Test.YtjgcfffepkmojaaGreatMach
namespace Go.Proofs.YtjgcfffepkmojaaGreat
open Go.RowKit
set_option linter.unusedVariables false

/-- A call of what a slot holds. -/
theorem wpList_byValue {P : Program} {ops : Array Oper} {Q : Exit → Act → World → Prop} {a : Act} {w : World} {rest : List Oper} {dst : Option Tmp} {g : Operand} {xs : Array Operand} {ats : Array TypeId} {ty : TypeId} {pos : String} {after : Array Edge}
    (F : Fn) (f : FuncId) (args args0 : Array Value) (hv : a.eval g = .func F #[] #[]) (ha : xs.map a.eval = args0) (hinv : (invoke (.fn F #[]) args0).run P w = .ok (.enter f args) w)
    (hc : Calls P f args w fun e w' => ∃ v, e = .returned v ∧ wpList P ops Q rest (a.put dst v) w') :
    wpList P ops Q ({ dst, op := .call { callee := .value g, args := xs, argTypes := ats }, type := ty, pos, after, guard := none } :: rest) a w := by
  refine wpList_plain rfl (fun K hK => ?_)
  have he : (execOp a.eval { dst, op := .call { callee := .value g, args := xs, argTypes := ats }, type := ty, pos, after, guard := none }).run P w = .ok (.enter f args) w := by
    have h0 : (#[] : Array Value) ++ args0 = args0 := Array.empty_append
    rw [← hinv]
    simp only [execOp, resolve, hv, Deferred.ofValue, ha]
    show (invoke (.fn F #[]) (#[] ++ args0)).run P w = _
    rw [h0]
  unfold Oper.wp
  rw [he, Oper.upon_enter]
  refine hc.mono ?_
  rintro e w' ⟨v, rfl, h⟩
  exact hK _ _ h

/-- The table. -/
def tab : Array Value := #[.func (.methodOf 135 "sluice/machine.loadK") #[] #[], .func (.methodOf 135 "sluice/machine.loadXK") #[] #[], .func (.methodOf 135 "sluice/machine.store") #[] #[], .func (.methodOf 135 "sluice/machine.storeX") #[] #[], .func (.methodOf 135 "sluice/machine.add") #[] #[], .func (.func 106) #[] #[],
  .func (.func 111) #[] #[], .func (.methodOf 135 "sluice/machine.toX") #[] #[], .nilFunc, .nilFunc, .nilFunc, .nilFunc,
  .func (.methodOf 135 "sluice/machine.add") #[] #[], .nilFunc, .nilFunc, .nilFunc, .nilFunc, .nilFunc,
  .nilFunc, .nilFunc, .func (.methodOf 135 "sluice/machine.sub") #[] #[], .func (.func 107) #[] #[], .func (.func 112) #[] #[], .nilFunc,
  .nilFunc, .nilFunc, .nilFunc, .nilFunc, .func (.methodOf 135 "sluice/machine.sub") #[] #[], .func (.func 107) #[] #[],
  .nilFunc, .nilFunc, .func (.func 86) #[] #[], .nilFunc, .nilFunc, .nilFunc,
  .func (.methodOf 135 "sluice/machine.mul") #[] #[], .func (.func 108) #[] #[], .nilFunc, .nilFunc, .nilFunc, .nilFunc,
  .nilFunc, .nilFunc, .func (.methodOf 135 "sluice/machine.mul") #[] #[], .func (.func 108) #[] #[], .nilFunc, .nilFunc,
  .nilFunc, .nilFunc, .nilFunc, .nilFunc, .func (.func 98) #[] #[], .func (.func 109) #[] #[],
  .nilFunc, .nilFunc, .nilFunc, .nilFunc, .nilFunc, .nilFunc,
  .func (.func 98) #[] #[], .func (.func 109) #[] #[], .nilFunc, .nilFunc, .nilFunc, .nilFunc,
  .nilFunc, .nilFunc, .func (.methodOf 135 "sluice/machine.or") #[] #[], .func (.func 110) #[] #[], .nilFunc, .nilFunc,
  .nilFunc, .nilFunc, .nilFunc, .nilFunc, .func (.methodOf 135 "sluice/machine.or") #[] #[], .func (.func 110) #[] #[],
  .nilFunc, .nilFunc, .nilFunc, .nilFunc, .nilFunc, .nilFunc,
  .func (.methodOf 135 "sluice/machine.and") #[] #[], .nilFunc, .nilFunc, .nilFunc, .nilFunc, .nilFunc,
  .nilFunc, .nilFunc, .func (.methodOf 135 "sluice/machine.and") #[] #[], .nilFunc, .nilFunc, .nilFunc,
  .func (.methodOf 135 "sluice/machine.loadCell") #[] #[], .func (.methodOf 135 "sluice/machine.loadX") #[] #[], .nilFunc, .nilFunc, .func (.methodOf 135 "sluice/machine.shl") #[] #[], .nilFunc,
  .nilFunc, .nilFunc, .nilFunc, .nilFunc, .nilFunc, .nilFunc,
  .func (.methodOf 135 "sluice/machine.shl") #[] #[], .nilFunc, .nilFunc, .nilFunc, .nilFunc, .nilFunc,
  .nilFunc, .nilFunc, .func (.methodOf 135 "sluice/machine.shr") #[] #[], .nilFunc, .nilFunc, .nilFunc,
  .nilFunc, .nilFunc, .nilFunc, .nilFunc, .func (.methodOf 135 "sluice/machine.shr") #[] #[], .nilFunc,
  .nilFunc, .nilFunc, .func (.methodOf 135 "sluice/machine.loadLen") #[] #[], .func (.methodOf 135 "sluice/machine.loadXLen") #[] #[], .nilFunc, .nilFunc,
  .func (.methodOf 135 "sluice/machine.neg") #[] #[], .nilFunc, .nilFunc, .func (.methodOf 135 "sluice/machine.fromX") #[] #[], .nilFunc, .nilFunc,
  .nilFunc, .nilFunc, .nilFunc, .nilFunc, .nilFunc, .nilFunc,
  .nilFunc, .nilFunc, .nilFunc, .nilFunc, .func (.func 103) #[] #[], .nilFunc,
  .nilFunc, .nilFunc, .nilFunc, .nilFunc, .nilFunc, .nilFunc,
  .func (.func 103) #[] #[], .nilFunc, .nilFunc, .nilFunc, .nilFunc, .nilFunc,
  .nilFunc, .nilFunc, .func (.methodOf 135 "sluice/machine.xor") #[] #[], .nilFunc, .nilFunc, .nilFunc,
  .nilFunc, .nilFunc, .nilFunc, .nilFunc, .func (.methodOf 135 "sluice/machine.xor") #[] #[]]

theorem inv_loadK (w : World) (g : Nat) (x : Value) : (invoke (.fn (.methodOf 135 "sluice/machine.loadK") #[]) #[.pointer (some ⟨g, 0, none⟩), x]).run Tryz.prog w = .ok (.enter 84 #[.pointer (some ⟨g, 0, none⟩), x]) w := by kernel_rfl
theorem inv_loadXK (w : World) (g : Nat) (x : Value) : (invoke (.fn (.methodOf 135 "sluice/machine.loadXK") #[]) #[.pointer (some ⟨g, 0, none⟩), x]).run Tryz.prog w = .ok (.enter 85 #[.pointer (some ⟨g, 0, none⟩), x]) w := by kernel_rfl
theorem inv_loadAt (w : World) (g : Nat) (x : Value) : (invoke (.fn (.func 86) #[]) #[.pointer (some ⟨g, 0, none⟩), x]).run Tryz.prog w = .ok (.enter 86 #[.pointer (some ⟨g, 0, none⟩), x]) w := by kernel_rfl
theorem inv_loadCell (w : World) (g : Nat) (x : Value) : (invoke (.fn (.methodOf 135 "sluice/machine.loadCell") #[]) #[.pointer (some ⟨g, 0, none⟩), x]).run Tryz.prog w = .ok (.enter 87 #[.pointer (some ⟨g, 0, none⟩), x]) w := by kernel_rfl
theorem inv_loadX (w : World) (g : Nat) (x : Value) : (invoke (.fn (.methodOf 135 "sluice/machine.loadX") #[]) #[.pointer (some ⟨g, 0, none⟩), x]).run Tryz.prog w = .ok (.enter 88 #[.pointer (some ⟨g, 0, none⟩), x]) w := by kernel_rfl
theorem inv_loadLen (w : World) (g : Nat) (x : Value) : (invoke (.fn (.methodOf 135 "sluice/machine.loadLen") #[]) #[.pointer (some ⟨g, 0, none⟩), x]).run Tryz.prog w = .ok (.enter 89 #[.pointer (some ⟨g, 0, none⟩), x]) w := by kernel_rfl
theorem inv_loadXLen (w : World) (g : Nat) (x : Value) : (invoke (.fn (.methodOf 135 "sluice/machine.loadXLen") #[]) #[.pointer (some ⟨g, 0, none⟩), x]).run Tryz.prog w = .ok (.enter 90 #[.pointer (some ⟨g, 0, none⟩), x]) w := by kernel_rfl
theorem inv_store (w : World) (g : Nat) (x : Value) : (invoke (.fn (.methodOf 135 "sluice/machine.store") #[]) #[.pointer (some ⟨g, 0, none⟩), x]).run Tryz.prog w = .ok (.enter 91 #[.pointer (some ⟨g, 0, none⟩), x]) w := by kernel_rfl
theorem inv_storeX (w : World) (g : Nat) (x : Value) : (invoke (.fn (.methodOf 135 "sluice/machine.storeX") #[]) #[.pointer (some ⟨g, 0, none⟩), x]).run Tryz.prog w = .ok (.enter 92 #[.pointer (some ⟨g, 0, none⟩), x]) w := by kernel_rfl
theorem inv_toX (w : World) (g : Nat) (x : Value) : (invoke (.fn (.methodOf 135 "sluice/machine.toX") #[]) #[.pointer (some ⟨g, 0, none⟩), x]).run Tryz.prog w = .ok (.enter 93 #[.pointer (some ⟨g, 0, none⟩), x]) w := by kernel_rfl
theorem inv_fromX (w : World) (g : Nat) (x : Value) : (invoke (.fn (.methodOf 135 "sluice/machine.fromX") #[]) #[.pointer (some ⟨g, 0, none⟩), x]).run Tryz.prog w = .ok (.enter 94 #[.pointer (some ⟨g, 0, none⟩), x]) w := by kernel_rfl
theorem inv_add (w : World) (g : Nat) (x : Value) : (invoke (.fn (.methodOf 135 "sluice/machine.add") #[]) #[.pointer (some ⟨g, 0, none⟩), x]).run Tryz.prog w = .ok (.enter 95 #[.pointer (some ⟨g, 0, none⟩), x]) w := by kernel_rfl
theorem inv_sub (w : World) (g : Nat) (x : Value) : (invoke (.fn (.methodOf 135 "sluice/machine.sub") #[]) #[.pointer (some ⟨g, 0, none⟩), x]).run Tryz.prog w = .ok (.enter 96 #[.pointer (some ⟨g, 0, none⟩), x]) w := by kernel_rfl
theorem inv_mul (w : World) (g : Nat) (x : Value) : (invoke (.fn (.methodOf 135 "sluice/machine.mul") #[]) #[.pointer (some ⟨g, 0, none⟩), x]).run Tryz.prog w = .ok (.enter 97 #[.pointer (some ⟨g, 0, none⟩), x]) w := by kernel_rfl
theorem inv_div (w : World) (g : Nat) (x : Value) : (invoke (.fn (.func 98) #[]) #[.pointer (some ⟨g, 0, none⟩), x]).run Tryz.prog w = .ok (.enter 98 #[.pointer (some ⟨g, 0, none⟩), x]) w := by kernel_rfl
theorem inv_or (w : World) (g : Nat) (x : Value) : (invoke (.fn (.methodOf 135 "sluice/machine.or") #[]) #[.pointer (some ⟨g, 0, none⟩), x]).run Tryz.prog w = .ok (.enter 99 #[.pointer (some ⟨g, 0, none⟩), x]) w := by kernel_rfl
theorem inv_and (w : World) (g : Nat) (x : Value) : (invoke (.fn (.methodOf 135 "sluice/machine.and") #[]) #[.pointer (some ⟨g, 0, none⟩), x]).run Tryz.prog w = .ok (.enter 100 #[.pointer (some ⟨g, 0, none⟩), x]) w := by kernel_rfl
theorem inv_shl (w : World) (g : Nat) (x : Value) : (invoke (.fn (.methodOf 135 "sluice/machine.shl") #[]) #[.pointer (some ⟨g, 0, none⟩), x]).run Tryz.prog w = .ok (.enter 101 #[.pointer (some ⟨g, 0, none⟩), x]) w := by kernel_rfl
theorem inv_shr (w : World) (g : Nat) (x : Value) : (invoke (.fn (.methodOf 135 "sluice/machine.shr") #[]) #[.pointer (some ⟨g, 0, none⟩), x]).run Tryz.prog w = .ok (.enter 102 #[.pointer (some ⟨g, 0, none⟩), x]) w := by kernel_rfl
theorem inv_mod (w : World) (g : Nat) (x : Value) : (invoke (.fn (.func 103) #[]) #[.pointer (some ⟨g, 0, none⟩), x]).run Tryz.prog w = .ok (.enter 103 #[.pointer (some ⟨g, 0, none⟩), x]) w := by kernel_rfl
theorem inv_xor (w : World) (g : Nat) (x : Value) : (invoke (.fn (.methodOf 135 "sluice/machine.xor") #[]) #[.pointer (some ⟨g, 0, none⟩), x]).run Tryz.prog w = .ok (.enter 104 #[.pointer (some ⟨g, 0, none⟩), x]) w := by kernel_rfl
theorem inv_neg (w : World) (g : Nat) (x : Value) : (invoke (.fn (.methodOf 135 "sluice/machine.neg") #[]) #[.pointer (some ⟨g, 0, none⟩), x]).run Tryz.prog w = .ok (.enter 105 #[.pointer (some ⟨g, 0, none⟩), x]) w := by kernel_rfl
theorem inv_jump (w : World) (g : Nat) (x : Value) : (invoke (.fn (.func 106) #[]) #[.pointer (some ⟨g, 0, none⟩), x]).run Tryz.prog w = .ok (.enter 106 #[.pointer (some ⟨g, 0, none⟩), x]) w := by kernel_rfl
theorem inv_ifEqual (w : World) (g : Nat) (x : Value) : (invoke (.fn (.func 107) #[]) #[.pointer (some ⟨g, 0, none⟩), x]).run Tryz.prog w = .ok (.enter 107 #[.pointer (some ⟨g, 0, none⟩), x]) w := by kernel_rfl
theorem inv_ifMore (w : World) (g : Nat) (x : Value) : (invoke (.fn (.func 108) #[]) #[.pointer (some ⟨g, 0, none⟩), x]).run Tryz.prog w = .ok (.enter 108 #[.pointer (some ⟨g, 0, none⟩), x]) w := by kernel_rfl
theorem inv_ifLeast (w : World) (g : Nat) (x : Value) : (invoke (.fn (.func 109) #[]) #[.pointer (some ⟨g, 0, none⟩), x]).run Tryz.prog w = .ok (.enter 109 #[.pointer (some ⟨g, 0, none⟩), x]) w := by kernel_rfl
theorem inv_ifBits (w : World) (g : Nat) (x : Value) : (invoke (.fn (.func 110) #[]) #[.pointer (some ⟨g, 0, none⟩), x]).run Tryz.prog w = .ok (.enter 110 #[.pointer (some ⟨g, 0, none⟩), x]) w := by kernel_rfl
theorem inv_retK (w : World) (g : Nat) (x : Value) : (invoke (.fn (.func 111) #[]) #[.pointer (some ⟨g, 0, none⟩), x]).run Tryz.prog w = .ok (.enter 111 #[.pointer (some ⟨g, 0, none⟩), x]) w := by kernel_rfl
theorem inv_retA (w : World) (g : Nat) (x : Value) : (invoke (.fn (.func 112) #[]) #[.pointer (some ⟨g, 0, none⟩), x]).run Tryz.prog w = .ok (.enter 112 #[.pointer (some ⟨g, 0, none⟩), x]) w := by kernel_rfl

theorem wpList_makeFn {P : Program} {ops : Array Oper} {Q : Exit → Act → World → Prop} {a : Act} {w : World} {rest : List Oper} {dst : Option Tmp} {fn : Fn} {ty : TypeId} {pos : String} {after : Array Edge}
    (h : wpList P ops Q rest (a.put dst (.func fn #[] #[])) w) : wpList P ops Q ({ dst, op := .makeFunc fn #[] #[], type := ty, pos, after, guard := none } :: rest) a w :=
  wpList_plain rfl fun K hK => by
    have := hK _ _ h
    simpa [Oper.wp, execOp, Instr.makeFunc, go_sem] using this
set_option maxRecDepth 100000 in
set_option maxHeartbeats 2000000 in
theorem effects_any (w : World) : Calls Tryz.prog 66 #[] w fun e w' => e = .returned (.agg tab) ∧ Fr nob w w' := by
  have k0 : (w.alloc (.cells Tryz.zeroCells129 129)).heap[w.heap.size]? = some (.cells Tryz.zeroCells129 129 (0, 0)) := heap_alloc_new w _
  have K0 := hide k0
  clear k0
  go_enter Tryz.func66, Tryz.ntmps66
  go_upto_region 1 with fail
  rename_i K hK
  refine wp_region_lit ?_
  repeat (refine wpList_makeFn ?_)
  refine wpList_build rfl 129 _ rfl (by kernel_rfl) ?_
  refine wpList_store_row rfl 129 _ _ rfl w.heap.size tab (by kernel_rfl) (by kernel_rfl) 129 Tryz.zeroCells129 K0.out (by kernel_rfl) (by kernel_rfl) (by kernel_rfl) ?_
  refine wpList_nil ?_
  refine hK _ _ ?_
  have f1 : Fr nob w ((w.alloc (.cells Tryz.zeroCells129 129)).setRow w.heap.size tab) := by
    have f0 := (Fr.refl nob w).alloc (.cells Tryz.zeroCells129 129)
    refine ⟨f0.os, f0.tape, f0.output, by rw [setRow_size]; exact f0.size, fun k hk hS => ?_⟩
    rw [setRow_other _ _ _ _ (by omega)]
    exact f0.block k hk hS
  refine wp_ret ?_
  refine bodyPost_ret (v := .agg tab) ?_ ?_ ?_
  · exact results_cell_row Tryz.results66 _ _ w.heap.size 129 tab (0, 0) _ (by kernel_rfl) (setRow_heap _ _ _ _ _ _ K0.out) Tryz.underlying129 rfl (by kernel_rfl)
  · kernel_rfl
  · exact ⟨rfl, f1⟩
end Go.Proofs.YtjgcfffepkmojaaGreat
