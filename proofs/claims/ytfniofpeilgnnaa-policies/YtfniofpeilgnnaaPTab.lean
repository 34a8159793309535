import Derived.Laws.ByValue
import Derived.Laws.Tables
import Derived.Laws.Rows
import Derived.Deep.DeepCutAuto
import Derived.Test.YtfniofpeilgnnaaMach
namespace Go.Proofs.Ytfniofpeilgnnaa
open Go.RowKit
set_option linter.unusedVariables false

/-- A call of what a slot holds. -/
theorem wpList_byValue {P : Program} {ops : Array Oper} {Q : Exit → Act → World → Prop} {a : Act} {w : World} {rest : List Oper} {dst : Option Tmp} {g : Operand} {xs : Array Operand} {ats : Array TypeId} {ty : TypeId} {pos : String} {after : Array Edge}
    (F : Fn) (f : FuncId) (args args0 : Array Value) (hv : a.eval g = .func F #[] #[]) (ha : xs.map a.eval = args0) (hinv : (invoke (.fn F #[]) args0).run P w = .ok (.enter f args) w)
    (hc : Calls P f args w fun e w' => ∃ v, e = .returned v ∧ wpList P ops Q rest (a.put dst v) w') :
    wpList P ops Q ({ dst, op := .call { callee := .value g, args := xs, argTypes := ats }, type := ty, pos, after, guard := none } :: rest) a w := by
  refine wpList_plain rfl (fun K hK => ?_)
  have he : (execOp a.eval { dst, op := .call { callee := .value g, args := xs, argTypes := ats }, type := ty, pos, after, guard := none }).run P w = .ok (.enter f args) w := by
    have h0 : (#[] : Array Value) ++ args0 = args0 := Array.empty_append
    rw [← hinv]
    simp only [execOp, resolve, hv, Deferred.ofValue, ha]
    show (invoke (.fn F #[]) (#[] ++ args0)).run P w = _
    rw [h0]
  unfold Oper.wp
  rw [he, Oper.upon_enter]
  refine hc.mono ?_
  rintro e w' ⟨v, rfl, h⟩
  exact hK _ _ h

/-- The table. -/
def tab : Array Value := #[.func (.methodOf 74 "sluice/machine.loadK") #[] #[], .func (.methodOf 74 "sluice/machine.loadXK") #[] #[], .func (.methodOf 74 "sluice/machine.store") #[] #[], .func (.methodOf 74 "sluice/machine.storeX") #[] #[], .func (.methodOf 74 "sluice/machine.add") #[] #[], .func (.func 56) #[] #[],
  .func (.func 61) #[] #[], .func (.methodOf 74 "sluice/machine.toX") #[] #[], .nilFunc, .nilFunc, .nilFunc, .nilFunc,
  .func (.methodOf 74 "sluice/machine.add") #[] #[], .nilFunc, .nilFunc, .nilFunc, .nilFunc, .nilFunc,
  .nilFunc, .nilFunc, .func (.methodOf 74 "sluice/machine.sub") #[] #[], .func (.func 57) #[] #[], .func (.func 62) #[] #[], .nilFunc,
  .nilFunc, .nilFunc, .nilFunc, .nilFunc, .func (.methodOf 74 "sluice/machine.sub") #[] #[], .func (.func 57) #[] #[],
  .nilFunc, .nilFunc, .func (.func 36) #[] #[], .nilFunc, .nilFunc, .nilFunc,
  .func (.methodOf 74 "sluice/machine.mul") #[] #[], .func (.func 58) #[] #[], .nilFunc, .nilFunc, .nilFunc, .nilFunc,
  .nilFunc, .nilFunc, .func (.methodOf 74 "sluice/machine.mul") #[] #[], .func (.func 58) #[] #[], .nilFunc, .nilFunc,
  .nilFunc, .nilFunc, .nilFunc, .nilFunc, .func (.func 48) #[] #[], .func (.func 59) #[] #[],
  .nilFunc, .nilFunc, .nilFunc, .nilFunc, .nilFunc, .nilFunc,
  .func (.func 48) #[] #[], .func (.func 59) #[] #[], .nilFunc, .nilFunc, .nilFunc, .nilFunc,
  .nilFunc, .nilFunc, .func (.methodOf 74 "sluice/machine.or") #[] #[], .func (.func 60) #[] #[], .nilFunc, .nilFunc,
  .nilFunc, .nilFunc, .nilFunc, .nilFunc, .func (.methodOf 74 "sluice/machine.or") #[] #[], .func (.func 60) #[] #[],
  .nilFunc, .nilFunc, .nilFunc, .nilFunc, .nilFunc, .nilFunc,
  .func (.methodOf 74 "sluice/machine.and") #[] #[], .nilFunc, .nilFunc, .nilFunc, .nilFunc, .nilFunc,
  .nilFunc, .nilFunc, .func (.methodOf 74 "sluice/machine.and") #[] #[], .nilFunc, .nilFunc, .nilFunc,
  .func (.methodOf 74 "sluice/machine.loadCell") #[] #[], .func (.methodOf 74 "sluice/machine.loadX") #[] #[], .nilFunc, .nilFunc, .func (.methodOf 74 "sluice/machine.shl") #[] #[], .nilFunc,
  .nilFunc, .nilFunc, .nilFunc, .nilFunc, .nilFunc, .nilFunc,
  .func (.methodOf 74 "sluice/machine.shl") #[] #[], .nilFunc, .nilFunc, .nilFunc, .nilFunc, .nilFunc,
  .nilFunc, .nilFunc, .func (.methodOf 74 "sluice/machine.shr") #[] #[], .nilFunc, .nilFunc, .nilFunc,
  .nilFunc, .nilFunc, .nilFunc, .nilFunc, .func (.methodOf 74 "sluice/machine.shr") #[] #[], .nilFunc,
  .nilFunc, .nilFunc, .func (.methodOf 74 "sluice/machine.loadLen") #[] #[], .func (.methodOf 74 "sluice/machine.loadXLen") #[] #[], .nilFunc, .nilFunc,
  .func (.methodOf 74 "sluice/machine.neg") #[] #[], .nilFunc, .nilFunc, .func (.methodOf 74 "sluice/machine.fromX") #[] #[], .nilFunc, .nilFunc,
  .nilFunc, .nilFunc, .nilFunc, .nilFunc, .nilFunc, .nilFunc,
  .nilFunc, .nilFunc, .nilFunc, .nilFunc, .func (.func 53) #[] #[], .nilFunc,
  .nilFunc, .nilFunc, .nilFunc, .nilFunc, .nilFunc, .nilFunc,
  .func (.func 53) #[] #[], .nilFunc, .nilFunc, .nilFunc, .nilFunc, .nilFunc,
  .nilFunc, .nilFunc, .func (.methodOf 74 "sluice/machine.xor") #[] #[], .nilFunc, .nilFunc, .nilFunc,
  .nilFunc, .nilFunc, .nilFunc, .nilFunc, .func (.methodOf 74 "sluice/machine.xor") #[] #[]]

theorem inv_loadK (w : World) (g : Nat) (x : Value) : (invoke (.fn (.methodOf 74 "sluice/machine.loadK") #[]) #[.pointer (some ⟨g, 0, none⟩), x]).run Try.prog w = .ok (.enter 34 #[.pointer (some ⟨g, 0, none⟩), x]) w := by kernel_rfl
theorem inv_loadXK (w : World) (g : Nat) (x : Value) : (invoke (.fn (.methodOf 74 "sluice/machine.loadXK") #[]) #[.pointer (some ⟨g, 0, none⟩), x]).run Try.prog w = .ok (.enter 35 #[.pointer (some ⟨g, 0, none⟩), x]) w := by kernel_rfl
theorem inv_loadAt (w : World) (g : Nat) (x : Value) : (invoke (.fn (.func 36) #[]) #[.pointer (some ⟨g, 0, none⟩), x]).run Try.prog w = .ok (.enter 36 #[.pointer (some ⟨g, 0, none⟩), x]) w := by kernel_rfl
theorem inv_loadCell (w : World) (g : Nat) (x : Value) : (invoke (.fn (.methodOf 74 "sluice/machine.loadCell") #[]) #[.pointer (some ⟨g, 0, none⟩), x]).run Try.prog w = .ok (.enter 37 #[.pointer (some ⟨g, 0, none⟩), x]) w := by kernel_rfl
theorem inv_loadX (w : World) (g : Nat) (x : Value) : (invoke (.fn (.methodOf 74 "sluice/machine.loadX") #[]) #[.pointer (some ⟨g, 0, none⟩), x]).run Try.prog w = .ok (.enter 38 #[.pointer (some ⟨g, 0, none⟩), x]) w := by kernel_rfl
theorem inv_loadLen (w : World) (g : Nat) (x : Value) : (invoke (.fn (.methodOf 74 "sluice/machine.loadLen") #[]) #[.pointer (some ⟨g, 0, none⟩), x]).run Try.prog w = .ok (.enter 39 #[.pointer (some ⟨g, 0, none⟩), x]) w := by kernel_rfl
theorem inv_loadXLen (w : World) (g : Nat) (x : Value) : (invoke (.fn (.methodOf 74 "sluice/machine.loadXLen") #[]) #[.pointer (some ⟨g, 0, none⟩), x]).run Try.prog w = .ok (.enter 40 #[.pointer (some ⟨g, 0, none⟩), x]) w := by kernel_rfl
theorem inv_store (w : World) (g : Nat) (x : Value) : (invoke (.fn (.methodOf 74 "sluice/machine.store") #[]) #[.pointer (some ⟨g, 0, none⟩), x]).run Try.prog w = .ok (.enter 41 #[.pointer (some ⟨g, 0, none⟩), x]) w := by kernel_rfl
theorem inv_storeX (w : World) (g : Nat) (x : Value) : (invoke (.fn (.methodOf 74 "sluice/machine.storeX") #[]) #[.pointer (some ⟨g, 0, none⟩), x]).run Try.prog w = .ok (.enter 42 #[.pointer (some ⟨g, 0, none⟩), x]) w := by kernel_rfl
theorem inv_toX (w : World) (g : Nat) (x : Value) : (invoke (.fn (.methodOf 74 "sluice/machine.toX") #[]) #[.pointer (some ⟨g, 0, none⟩), x]).run Try.prog w = .ok (.enter 43 #[.pointer (some ⟨g, 0, none⟩), x]) w := by kernel_rfl
theorem inv_fromX (w : World) (g : Nat) (x : Value) : (invoke (.fn (.methodOf 74 "sluice/machine.fromX") #[]) #[.pointer (some ⟨g, 0, none⟩), x]).run Try.prog w = .ok (.enter 44 #[.pointer (some ⟨g, 0, none⟩), x]) w := by kernel_rfl
theorem inv_add (w : World) (g : Nat) (x : Value) : (invoke (.fn (.methodOf 74 "sluice/machine.add") #[]) #[.pointer (some ⟨g, 0, none⟩), x]).run Try.prog w = .ok (.enter 45 #[.pointer (some ⟨g, 0, none⟩), x]) w := by kernel_rfl
theorem inv_sub (w : World) (g : Nat) (x : Value) : (invoke (.fn (.methodOf 74 "sluice/machine.sub") #[]) #[.pointer (some ⟨g, 0, none⟩), x]).run Try.prog w = .ok (.enter 46 #[.pointer (some ⟨g, 0, none⟩), x]) w := by kernel_rfl
theorem inv_mul (w : World) (g : Nat) (x : Value) : (invoke (.fn (.methodOf 74 "sluice/machine.mul") #[]) #[.pointer (some ⟨g, 0, none⟩), x]).run Try.prog w = .ok (.enter 47 #[.pointer (some ⟨g, 0, none⟩), x]) w := by kernel_rfl
theorem inv_div (w : World) (g : Nat) (x : Value) : (invoke (.fn (.func 48) #[]) #[.pointer (some ⟨g, 0, none⟩), x]).run Try.prog w = .ok (.enter 48 #[.pointer (some ⟨g, 0, none⟩), x]) w := by kernel_rfl
theorem inv_or (w : World) (g : Nat) (x : Value) : (invoke (.fn (.methodOf 74 "sluice/machine.or") #[]) #[.pointer (some ⟨g, 0, none⟩), x]).run Try.prog w = .ok (.enter 49 #[.pointer (some ⟨g, 0, none⟩), x]) w := by kernel_rfl
theorem inv_and (w : World) (g : Nat) (x : Value) : (invoke (.fn (.methodOf 74 "sluice/machine.and") #[]) #[.pointer (some ⟨g, 0, none⟩), x]).run Try.prog w = .ok (.enter 50 #[.pointer (some ⟨g, 0, none⟩), x]) w := by kernel_rfl
theorem inv_shl (w : World) (g : Nat) (x : Value) : (invoke (.fn (.methodOf 74 "sluice/machine.shl") #[]) #[.pointer (some ⟨g, 0, none⟩), x]).run Try.prog w = .ok (.enter 51 #[.pointer (some ⟨g, 0, none⟩), x]) w := by kernel_rfl
theorem inv_shr (w : World) (g : Nat) (x : Value) : (invoke (.fn (.methodOf 74 "sluice/machine.shr") #[]) #[.pointer (some ⟨g, 0, none⟩), x]).run Try.prog w = .ok (.enter 52 #[.pointer (some ⟨g, 0, none⟩), x]) w := by kernel_rfl
theorem inv_mod (w : World) (g : Nat) (x : Value) : (invoke (.fn (.func 53) #[]) #[.pointer (some ⟨g, 0, none⟩), x]).run Try.prog w = .ok (.enter 53 #[.pointer (some ⟨g, 0, none⟩), x]) w := by kernel_rfl
theorem inv_xor (w : World) (g : Nat) (x : Value) : (invoke (.fn (.methodOf 74 "sluice/machine.xor") #[]) #[.pointer (some ⟨g, 0, none⟩), x]).run Try.prog w = .ok (.enter 54 #[.pointer (some ⟨g, 0, none⟩), x]) w := by kernel_rfl
theorem inv_neg (w : World) (g : Nat) (x : Value) : (invoke (.fn (.methodOf 74 "sluice/machine.neg") #[]) #[.pointer (some ⟨g, 0, none⟩), x]).run Try.prog w = .ok (.enter 55 #[.pointer (some ⟨g, 0, none⟩), x]) w := by kernel_rfl
theorem inv_jump (w : World) (g : Nat) (x : Value) : (invoke (.fn (.func 56) #[]) #[.pointer (some ⟨g, 0, none⟩), x]).run Try.prog w = .ok (.enter 56 #[.pointer (some ⟨g, 0, none⟩), x]) w := by kernel_rfl
theorem inv_ifEqual (w : World) (g : Nat) (x : Value) : (invoke (.fn (.func 57) #[]) #[.pointer (some ⟨g, 0, none⟩), x]).run Try.prog w = .ok (.enter 57 #[.pointer (some ⟨g, 0, none⟩), x]) w := by kernel_rfl
theorem inv_ifMore (w : World) (g : Nat) (x : Value) : (invoke (.fn (.func 58) #[]) #[.pointer (some ⟨g, 0, none⟩), x]).run Try.prog w = .ok (.enter 58 #[.pointer (some ⟨g, 0, none⟩), x]) w := by kernel_rfl
theorem inv_ifLeast (w : World) (g : Nat) (x : Value) : (invoke (.fn (.func 59) #[]) #[.pointer (some ⟨g, 0, none⟩), x]).run Try.prog w = .ok (.enter 59 #[.pointer (some ⟨g, 0, none⟩), x]) w := by kernel_rfl
theorem inv_ifBits (w : World) (g : Nat) (x : Value) : (invoke (.fn (.func 60) #[]) #[.pointer (some ⟨g, 0, none⟩), x]).run Try.prog w = .ok (.enter 60 #[.pointer (some ⟨g, 0, none⟩), x]) w := by kernel_rfl
theorem inv_retK (w : World) (g : Nat) (x : Value) : (invoke (.fn (.func 61) #[]) #[.pointer (some ⟨g, 0, none⟩), x]).run Try.prog w = .ok (.enter 61 #[.pointer (some ⟨g, 0, none⟩), x]) w := by kernel_rfl
theorem inv_retA (w : World) (g : Nat) (x : Value) : (invoke (.fn (.func 62) #[]) #[.pointer (some ⟨g, 0, none⟩), x]).run Try.prog w = .ok (.enter 62 #[.pointer (some ⟨g, 0, none⟩), x]) w := by kernel_rfl

theorem wpList_makeFn {P : Program} {ops : Array Oper} {Q : Exit → Act → World → Prop} {a : Act} {w : World} {rest : List Oper} {dst : Option Tmp} {fn : Fn} {ty : TypeId} {pos : String} {after : Array Edge}
    (h : wpList P ops Q rest (a.put dst (.func fn #[] #[])) w) : wpList P ops Q ({ dst, op := .makeFunc fn #[] #[], type := ty, pos, after, guard := none } :: rest) a w :=
  wpList_plain rfl fun K hK => by
    have := hK _ _ h
    simpa [Oper.wp, execOp, Instr.makeFunc, go_sem] using this
set_option maxRecDepth 100000 in
set_option maxHeartbeats 2000000 in
theorem effects_any (w : World) : Calls Try.prog 22 #[] w fun e w' => e = .returned (.agg tab) ∧ Fr nob w w' := by
  have k0 : (w.alloc (.cells Try.zeroCells67 67)).heap[w.heap.size]? = some (.cells Try.zeroCells67 67 (0, 0)) := heap_alloc_new w _
  have K0 := hide k0
  clear k0
  go_enter Try.func22, Try.ntmps22
  go_upto_region 1 with fail
  rename_i K hK
  refine wp_region_lit ?_
  repeat (refine wpList_makeFn ?_)
  refine wpList_build rfl 67 _ rfl (by kernel_rfl) ?_
  refine wpList_store_row rfl 67 _ _ rfl w.heap.size tab (by kernel_rfl) (by kernel_rfl) 67 Try.zeroCells67 K0.out (by kernel_rfl) (by kernel_rfl) (by kernel_rfl) ?_
  refine wpList_nil ?_
  refine hK _ _ ?_
  have f1 : Fr nob w ((w.alloc (.cells Try.zeroCells67 67)).setRow w.heap.size tab) := by
    have f0 := (Fr.refl nob w).alloc (.cells Try.zeroCells67 67)
    refine ⟨f0.os, f0.tape, f0.output, by rw [setRow_size]; exact f0.size, fun k hk hS => ?_⟩
    rw [setRow_other _ _ _ _ (by omega)]
    exact f0.block k hk hS
  refine wp_ret ?_
  refine bodyPost_ret (v := .agg tab) ?_ ?_ ?_
  · exact results_cell_row Try.results22 _ _ w.heap.size 67 tab (0, 0) _ (by kernel_rfl) (setRow_heap _ _ _ _ _ _ K0.out) Try.underlying67 rfl (by kernel_rfl)
  · kernel_rfl
  · exact ⟨rfl, f1⟩
end Go.Proofs.Ytfniofpeilgnnaa
