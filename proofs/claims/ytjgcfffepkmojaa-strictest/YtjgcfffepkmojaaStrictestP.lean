import Derived.Test.YtjgcfffepkmojaaOpen
import Derived.Test.YtjgcfffepkmojaaKStrW
import Derived.ProofKit
import Derived.OpenShut
import Derived.ChangeOld
namespace Go.Proofs.Ytjgcfffepkmojaa.strictest
open Go.ChangeShapes Go.WideShapes Go.ChangeAt Go.RowKit
set_option linter.unusedVariables false

theorem own : ownKnob Try.prog.godebug = none := by kernel_rfl
theorem laidOut : laidOutB Try.prog = true := by kernel_rfl
theorem cat_u32 (l : List Int) : cat (fun v : Int => [Value.int .u32 v]) l = u32s l := by
  induction l with
  | nil => rfl
  | cons v l ih =>
    show [Value.int .u32 v] ++ cat (fun v : Int => [Value.int .u32 v]) l = _
    rw [ih]; rfl
section
variable {H : Type} {enc : TypeId × Value → H} {W : World}
/-- A list of numbers that came in, of whatever length. -/
theorem read_nums {fuel : Nat} {v : Value} {x : DataW H × List MemPlace} (h : Rd enc W fuel 66 [v] x) :
    ∃ (ao : Option Addr) (cap : Nat) (l : List Int), v = .slice ao l.length cap ∧ View W ao (u32s l) ∧ l.length ≤ cap ∧ l.length ≤ 9223372036854775807 ∧ ∀ v ∈ l, U32 v := by
  obtain ⟨ao, cap, l, e, hv, _, _, _, hl, hok⟩ := read_listM (0 : Int) (f := fun v : Int => [Value.int .u32 v]) (s := 1) (by decide) (fun _ => rfl) U32 Try.underlying66 cells_u32 (Rows.uptoBulk x.1) (fun fuel cs x h _ => by
    obtain ⟨a, e0, _, w0⟩ := DataW.trod_int Try.underlying27 h
    exact ⟨a, e0, wf32 w0⟩) h (Nat.le_refl _)
  rw [cat_u32] at hv
  refine ⟨ao, cap, l, e, hv, ?_, hl, hok⟩
  rcases Go.Deep.open_slice Try.underlying66 h with ⟨hc, _⟩ | ⟨a, len, cap', m, n, D, Pl, hc, _, hlc, _⟩
  · simp only [List.cons.injEq, and_true, e, Value.slice.injEq] at hc
    omega
  · simp only [List.cons.injEq, and_true, e, Value.slice.injEq] at hc
    omega
end

set_option maxRecDepth 100000 in
/-- What the walk gives, for every list of verdicts. -/
theorem contract (H : Type) (enc : TypeId × Value → H) (W : World) (base : Nat) (args : Array Value) (ds gs : List (DataW H)) (before : List MemPlace)
    (hval : ∀ (j : Nat) t v, Try.f9.params[j]? = some t → args[j]? = some v → Value.okWide Try.prog W .any base t v)
    (hW : DataW.Whole enc Try.prog Try.f9.params.toList Rows.strictestSpec.vars false W args.toList ds gs before) :
    Calls Try.prog 9 args W fun e W' => ∃ v, e = .returned v ∧ Rows.strictestSpec.post enc Try.prog Try.f9 false true false false W args v W' := by
  have hW' := hW
  obtain ⟨p, q, hA0, hV, rfl, hfz, hnd⟩ := hW
  have hA : DataW.TrodAll enc Try.prog W 0 (fun _ => true) true Try.f9.params.toList args.toList ds p := hA0
  rw [Try.params9] at hA hval
  obtain ⟨v0, vs0, d0, ds0, p0, q0, hargs, rfl, rfl, h0, r0⟩ := trodAll_cons hA
  obtain ⟨v1, vs1, d1, ds1, p1, q1, rfl, rfl, rfl, h1, r1⟩ := trodAll_cons r0
  obtain ⟨rfl, rfl, rfl⟩ := trodAll_nil r1
  obtain rfl : args = #[v0, v1] := by cases args; simp_all
  obtain ⟨rfl, rfl⟩ := trodVars_none hV
  obtain ⟨a0, len0, cap0, rfl⟩ := okWide_slice Try.underlying66 (hval 0 66 v0 rfl rfl)
  have k1 := h1
  obtain ⟨once, rfl, rfl, rfl⟩ := open_bool Try.underlying4 (hval 1 4 v1 rfl rfl) h1
  have k0 := h0
  have lt0 : ∀ x ∈ p0, x.block < W.heap.size := by obtain ⟨m, hm⟩ := k0; exact DataW.trod_lt m _ _ _ hm
  have lt1 : ∀ x ∈ ([] : List MemPlace), x.block < W.heap.size := fun x hx => by cases hx
  obtain ⟨fuel, hf⟩ := h0
  obtain ⟨ao, cap, l, hv, hview, hlc, hlen, hok⟩ := read_nums (enc := enc) (W := W) (fuel := fuel) (v := .slice a0 len0 cap0) (x := (d0, p0)) hf
  clear hA0
  rw [hv]
  rw [hv] at hW' k0
  refine (strictest_any W ao cap l hview hok hlc hlen once).mono fun e W' ⟨he, fr⟩ => ?_
  subst he
  exact ⟨_, rfl, _, _, _, [], _, [], hW', trodAll_mk1 (shut_bool Try.underlying4 _), trodAll_mk2 (Below.trod laidOut (by kernel_rfl) (of_decide_eq_true (by kernel_rfl)) k0 fr.below lt0) (Below.trod laidOut (by kernel_rfl) (of_decide_eq_true (by kernel_rfl)) k1 fr.below lt1), rfl, fr.below.frame _, fun h => by cases h⟩

set_option maxRecDepth 100000 in
theorem lifted (os : Os) (started : os.Started) (H : Type) (enc : TypeId × Value → H) :
    ReturnsInHanded {} Try.checked os 9 .any (Rows.strictestSpec.pre6 enc Try.prog Try.f9 Rows.strictestRow.domain false) (Rows.strictestSpec.post enc Try.prog Try.f9 false true false false) := by
  refine returnsInHanded_of_change (C := Try.checked) own started (by kernel_rfl) Try.func9
    (ChangeSpec.witness6 (enc := enc) (C := Try.checked) false ⟨#[], #[.slice none 0 0, .bool false], []⟩ 8 (by kernel_rfl) (by kernel_rfl) (by kernel_rfl) (by kernel_rfl)) ?_
  intro W base args ds gs before hval hW _ _
  exact contract H enc W base args ds gs before hval hW

theorem over : Rows.strictestRow.holds Try.pinned (OpenSpec.ofChange Rows.strictestSpec) :=
  OpenClaim.holds_of_wide 9 Try.f9 rfl rfl rfl rfl rfl rfl rfl ⟨rfl, rfl, rfl, rfl, rfl⟩ rfl rfl rfl rfl rfl (by kernel_rfl) Try.func9 (by kernel_rfl)
    (of_decide_eq_true (by kernel_rfl)) (by unfold Func.isWrapper; first | (rw [if_pos (by decide +kernel)]; kernel_rfl) | (rw [if_neg (by decide +kernel)]; exact ⟨rfl, rfl⟩))
    (fun os started H enc _ => lifted os started H enc)
end Go.Proofs.Ytjgcfffepkmojaa.strictest
namespace Go.Proofs.Ytjgcfffepkmojaa
/-- THE STATEMENT. -/
theorem strictest_holds : Rows.StrictestSaid := strictest.over
#print axioms strictest_holds
end Go.Proofs.Ytjgcfffepkmojaa
